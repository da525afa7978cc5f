import Derived.Test.YticfcjmlphhpgaaGreatDoorA24
import Derived.Test.YticfcjmlphhpgaaGreatDoorA30
import Derived.Test.YticfcjmlphhpgaaGreatDoorA33
set_option maxRecDepth 20000
set_option maxHeartbeats 8000000
namespace Go.Proofs.YticfcjmlphhpgaaGreatDoor
open Go.RowKit Go.Maps
theorem weightB_any (v:Value) (ns:List Nd) (w:World) (hv:SliceN w v ns) (hln:ns.length≤140737488355328) (hsz:∀y∈ns,y.path.size≤140737488355328∧y.data.size≤140737488355328) :
  Calls Tryz.prog 13 #[v] w fun e w'=>∃n:Nat,e=.returned (.int .i64 (n:Int))∧n≤562949953421312∧(n≤262144→ns.length≤262144∧∀y∈ns,y.path.size≤262144∧y.data.size≤262144)∧Below w.heap.size w w':=by
 obtain ⟨a,cap,rfl,hcap,hmax,hnone,hcells⟩:=hv
 by_cases hn:ns.length=0
 ·have hns:ns=[]:=List.eq_nil_of_length_eq_zero hn;subst hns;clear hcells;go_enter Tryz.func13,Tryz.ntmps13;go_wp2;refine wp_loop_rounds 1 ?_;rw[rounds_succ];go_wp2;go_ret;exact ⟨0,rfl,by omega,(fun _=>⟨by simp,fun y hy=>by cases hy⟩),Below.refl _ _⟩
 ·obtain ⟨b,off,rfl,hbl,hN⟩:=hcells (by omega);have HN:=hide hN;have HS:=hide hsz;clear hN hsz hcells hnone;go_enter Tryz.func13,Tryz.ntmps13;go_wp2
  go_loopw [3,5,10] (fun n _ i w1=>∃j q:Nat,j≤ns.length∧i=.int .i64 j∧n=.int .i64 (q:Int)∧q≤140737488355328∧ns.length≤q∧(q≤262144∨j=0)∧Hid (∀k (hk:k<ns.length),k<j→ns[k].path.size≤q∧ns[k].data.size≤q)∧Below w.heap.size w w1) (fun _ _ i _=>ns.length - (intOf i).toNat)
  case atStart=>exact ⟨0,ns.length,by omega,rfl,rfl,by omega,Nat.le_refl _,.inr rfl,(fun k _ h=>by omega),Below.refl _ _⟩
  case round=>
   obtain ⟨j,q,hj,rfl,rfl,hq,hlq,hor,hall,hbel⟩:=hrel;have hszr:=hbel.size
   by_cases hlt:j<ns.length
   ·obtain ⟨c0,c1,c2⟩:=(HN.out.below hbel hbl) j hlt;have hs:=HS.out _ (List.getElem_mem hlt);generalize hy:ns[j]=y at c0 c1 c2 hs;obtain ⟨yp,yk,yd⟩:=y;simp only at c0 c1 c2 hs;have HY:=hide hy;clear hy
    by_cases hbig:(262144:Int)<(q:Int)+((yp.size:Int)+yd.size)
    ·go_wp2;go_ret;exact ⟨q+(yp.size+yd.size),by go_num,by omega,fun h=>by omega,hbel.alloc hszr _⟩
    ·go_wp2;go_roundw
     case rel=>
      refine ⟨j+1,q+(yp.size+yd.size),by omega,by go_num,by go_num,by omega,by omega,.inl (by omega),?_,hbel.alloc hszr _⟩;intro k hk h
      by_cases e:k=j
      ·subst e;rw[HY.out];exact ⟨by simp only;omega,by simp only;omega⟩
      ·have:=hall.out k hk (by omega);omega
     case measure=>simp[intOf];omega
   ·obtain rfl:j=ns.length:=by omega
    go_wp2;go_ret;refine ⟨q,rfl,by omega,fun h=>⟨by omega,fun y hy=>?_⟩,hbel⟩;obtain ⟨k,hk,rfl⟩:=List.getElem_of_mem hy;have:=hall.out k hk hk;omega
theorem wrapN (n:Int) (h0:0≤n) (h1:n<9223372036854775808):IntKind.i64.wrap n=n:=by
 rw[IntKind.wrap_i64];omega
theorem wrap4 (N a b n d:Nat) (hN:N≤562949953421312) (ha:a≤562949953421312) (hb:b≤562949953421312) (hn:n≤562949953421312) (hd:d≤562949953421312):IntKind.i64.wrap ((N:Int)+IntKind.i64.wrap (IntKind.i64.wrap (IntKind.i64.wrap ((a:Int)+b)+n)+d))=((N+(a+b+n+d):Nat):Int):=by
 rw[wrapN ((a:Int)+b) (by omega) (by omega),wrapN ((a:Int)+b+n) (by omega) (by omega),wrapN ((a:Int)+b+n+d) (by omega) (by omega),wrapN _ (by omega) (by omega)];omega
theorem reg11_5 (ob N dn lc dc ln:Nat) (s b:ByteArray) (la da:Option Addr) (WP:Nat→Prop) (w:World) (hN:N≤1000000000000) (hs:s.size≤1000000000000) (hb:b.size≤1000000000000) (hd:dn≤1000000000000) (c3:w.cell? ⟨ob,3,none⟩=some (.string s)) (c4:w.cell? ⟨ob,4,none⟩=some (.string b)) (c5:w.cell? ⟨ob,5,none⟩=some (.slice la ln lc)) (c7:w.cell? ⟨ob,7,none⟩=some (.slice da dn dc))
  (cW:∀V:World,Below w.heap.size w V→Calls Tryz.prog 13 #[.slice la ln lc] V fun e w'=>∃n:Nat,e=.returned (.int .i64 (n:Int))∧n≤562949953421312∧WP n∧Below V.heap.size V w') (u0 u1 u2 u4 u6 u7 u8 u9 u10 u11 u12 u13 u14 u15 u16 u17 u18 u19 u20 u21 u22 u23 u24 u25 u26 u27 u28 u29 u30 u31 u32 u33 u34 u35 u36 u37 u38 u39 u40 u41 u42 u43 u44 u45 u46 u47 u48 u49 u50:Value) :
  Code.wp Tryz.prog (regC Tryz.f11 5) (Exit.then (fun a w'=>(∃v3 v16 v17 v18 v19 v20 v21 v22 v23 v24 v25 v26 v27 v28 v29 v30 v31 v32:Value,a=⟨#[u0,u1,u2,v3,u4,.pointer (some ⟨ob,0,none⟩),u6,u7,u8,u9,u10,u11,u12,u13,u14,u15,v16,v17,v18,v19,v20,v21,v22,v23,v24,v25,v26,v27,v28,v29,v30,v31,v32,u33,u34,u35,u36,u37,u38,u39,u40,u41,u42,u43,u44,u45,u46,u47,u48,u49,u50],[]⟩∧∃n:Nat,v3=.int .i64 ((N+(s.size+b.size+n+dn):Nat):Int)∧n≤562949953421312∧WP n)∧Below w.heap.size w w') (fun _ _ _=>False)) ⟨#[u0,u1,u2,.int .i64 (N:Nat),u4,.pointer (some ⟨ob,0,none⟩),u6,u7,u8,u9,u10,u11,u12,u13,u14,u15,u16,u17,u18,u19,u20,u21,u22,u23,u24,u25,u26,u27,u28,u29,u30,u31,u32,u33,u34,u35,u36,u37,u38,u39,u40,u41,u42,u43,u44,u45,u46,u47,u48,u49,u50],[]⟩ w:=by
 unfold regC
 conv=>arg 2;whnf
 have CW:=hide cW;have HW0:=hide (drewB w);clear cW
 go_region_held3 (fun w'=>w'.cell? ⟨ob,3,none⟩=some (.string s)∧w'.cell? ⟨ob,4,none⟩=some (.string b)∧w'.cell? ⟨ob,5,none⟩=some (.slice la ln lc)∧w'.cell? ⟨ob,7,none⟩=some (.slice da dn dc)) (go_keep) (first
  | (go_at_call 13;refine (CW.out _ HW0.out).mono ?_;rintro e w1 ⟨n,rfl,hn,hWP,hb1⟩;have HW1:=hide (HW0.out.trans (hb1.mono HW0.out.size));have HWP:=hide hWP;have g0:=cellB HW1.out c3;have g1:=cellB HW1.out c4;have g2:=cellB HW1.out c5;have g3:=cellB HW1.out c7;clear hb1 hWP))
 all_goals refine ⟨⟨_,_,_,_,_,_,_,_,_,_,_,_,_,_,_,_,_,_,rfl,n,?_,hn,HWP.out⟩,HW1.out⟩
 all_goals exact congrArg (Value.int .i64) (wrap4 _ _ _ _ _ (by omega) (by omega) (by omega) (by omega) (by omega))
def ScrAt (w:World) (b off:Nat) (os:List Opx):Prop:=∀j (h:j<os.length),w.cell? ⟨b,off+j*8,none⟩=some (.int .i64 os[j].kind)∧w.cell? ⟨b,off+j*8+1,none⟩=some (.int .i64 os[j].ia)∧w.cell? ⟨b,off+j*8+2,none⟩=some (.int .i64 os[j].ic)∧w.cell? ⟨b,off+j*8+3,none⟩=some (.string os[j].s)∧w.cell? ⟨b,off+j*8+4,none⟩=some (.string os[j].b)∧w.cell? ⟨b,off+j*8+5,none⟩=some (.slice os[j].la os[j].ns.length os[j].lc)∧w.cell? ⟨b,off+j*8+6,none⟩=some (.slice os[j].ma os[j].ms.length os[j].mc)∧w.cell? ⟨b,off+j*8+7,none⟩=some (.slice os[j].da os[j].ds.length os[j].dc)
structure SliceO (w:World) (v:Value) (os:List Opx):Prop where
 sh:∃a cap,v=.slice a os.length cap∧(0<os.length→∃b off,a=some ⟨b,off,none⟩∧b<w.heap.size∧ScrAt w b off os)
 at_:∀o∈os,OpAt w o
def SmR (os:List Opx) (bb:Bool):Prop:=bb=true→os.length≤262144∧∀o∈os,OpOk o
def RetB (os:List Opx) (e:Ending):Prop:=∃bb,e=.returned (.bool bb)∧SmR os bb
theorem RetB.mk {os:List Opx} (bb:Bool) (h:bb=true→os.length≤262144∧∀o∈os,OpOk o):RetB os (.returned (.bool bb)):=⟨bb,rfl,h⟩
structure OpSz (o:Opx):Prop where
 s:o.s.size≤2097152
 b:o.b.size≤2097152
 ns:o.ns.length≤2097152∧∀n∈o.ns,n.path.size≤2097152∧n.data.size≤2097152
 ms:o.ms.length≤2097152∧∀r∈o.ms,r.size≤2097152
 ds:o.ds.length≤2097152
theorem small_any (v:Value) (os:List Opx) (w:World) (h:SliceO w v os) (hz:∀o∈os,OpSz o) (hol:os.length≤2097152) :
  Calls Tryz.prog 11 #[v] w fun e w'=>RetB os e∧Below w.heap.size w w':=by
 obtain ⟨⟨a,cap,rfl,hsc⟩,hat⟩:=h;have HAT:=hide hat;have HZ:=hide hz;have HSC:=hide hsc;clear hsc hat hz;go_enter Tryz.func11,Tryz.ntmps11;go_wp2
 go_loopw [3,12] (fun nv iv w2=>∃(j N:Nat),j≤os.length∧iv=.int .i64 j∧nv=.int .i64 (N:Int)∧os.length≤N∧(N≤262144∨(j=0∧N≤2097152))∧Hid (Below w.heap.size w w2)∧Hid (∀k (hk:k<os.length),k<j→OpOk os[k])) (fun _ iv _=>os.length - (intOf iv).toNat)
 case atStart=>exact ⟨0,os.length,by omega,rfl,rfl,Nat.le_refl _,.inr ⟨rfl,hol⟩,hide (Below.refl _ _),hide (fun k _ hk=>by omega)⟩
 case round=>
  obtain ⟨j,N,hj,rfl,rfl,hNl,hNb,HB2,HALL⟩:=hrel
  by_cases hlt:j<os.length
  ·have hltz:(j:Int)<os.length:=by omega
   obtain ⟨sb,so,hsa,hsb,hS⟩:=HSC.out (by omega);subst hsa;obtain ⟨e0,e1,e2,e3,e4,e5,e6,e7⟩:=hS j hlt;have d0:=cellB HB2.out e0;have d1:=cellB HB2.out e1;have d2:=cellB HB2.out e2;have d3:=cellB HB2.out e3;have d4:=cellB HB2.out e4;have d5:=cellB HB2.out e5;have d6:=cellB HB2.out e6;have d7:=cellB HB2.out e7;have HO:=hide (And.intro (HAT.out _ (List.getElem_mem hlt)) (HZ.out _ (List.getElem_mem hlt)));have HNX:Hid (OpOk os[j]→∀k (hk:k<os.length),k<j+1→OpOk os[k]):=hide fun ho k hk hkj=>by
    by_cases e':k=j
    ·subst e';exact ho
    ·exact HALL.out k hk (by omega)
   generalize os[j]=o at *;clear hS e0 e1 e2 e3 e4 e5 e6 e7 HALL;have HB3:=hide (belA HB2.out (.cells #[.int .i64 o.kind,.int .i64 o.ia,.int .i64 o.ic,.string o.s,.string o.b,.slice o.la o.ns.length o.lc,.slice o.ma o.ms.length o.mc,.slice o.da o.ds.length o.dc] 29));obtain ⟨o0,o1,o2,o3,o4,o5,o6,o7⟩:=eight_new wr (.int .i64 o.kind) (.int .i64 o.ia) (.int .i64 o.ic) (.string o.s) (.string o.b) (.slice o.la o.ns.length o.lc) (.slice o.ma o.ms.length o.mc) (.slice o.da o.ds.length o.dc) 29 _ rfl;have cW:=hide (fun V (hV:Below w.heap.size w V)=>weightB_any _ o.ns V (HO.out.1.l.below hV) (by have:=HO.out.2.ns.1;omega) (fun y hy=>by have:=HO.out.2.ns.2 y hy;omega));have hsz:=HO.out.2;have hs1:=hsz.s;have hs2:=hsz.b;have hs3:=hsz.ds;have hs4:=hsz.ms.1;go_wp2;refine wp_mono (reg11_5 wr.heap.size N o.ds.length o.lc o.dc o.ns.length o.s o.b o.la o.da _ _ (by omega) (by omega) (by omega) (by omega) o3 o4 o5 o7 (fun V hV=>cW.out V (HB3.out.trans (hV.mono HB3.out.size))) _ _ _ _ _ _ _ _ _ _ _ _ _ _ _ _ _ _ _ _ _ _ _ _ _ _ _ _ _ _ _ _ _ _ _ _ _ _ _ _ _ _ _ _ _ _ _ _ _ ) (reg_then ?_);rintro a w4 ⟨⟨v3,v16,v17,v18,v19,v20,v21,v22,v23,v24,v25,v26,v27,v28,v29,v30,v31,v32,rfl,n,rfl,hn,hWP⟩,hb4⟩;have HB4:=hide (HB3.out.trans (hb4.mono HB3.out.size));have p6:=cellB hb4 o6;have HWP:=hide hWP;obtain ⟨N1,hN1⟩:∃N1,N+(o.s.size+o.b.size+n+o.ds.length)=N1:=⟨_,rfl⟩;rw[hN1];have hN1b:N1≤1000000000000000:=by omega
   obtain ⟨ma,mc,hme,_,hmc⟩:=HO.out.1.m;injection hme with hme1 _ hme2
   have HMC:=hide hmc;clear hb4 hWP d0 d1 d2 d3 d4 d5 d6 d7 o0 o1 o2 o3 o4 o5 o6 o7 cW hsz hmc;obtain ⟨w5,hw5⟩:∃w5,w5=w4:=⟨_,rfl⟩;subst hw5;go_wp2
   go_loopw [3,36] (fun nv tv w6=>∃t N2:Nat,t≤o.ms.length∧tv=.int .i64 t∧nv=.int .i64 (N2:Int)∧N1+t≤N2∧N2≤N1+t*2097153∧Hid (∀k (hk:k<o.ms.length),k<t→o.ms[k].size≤N2)∧Hid (w6=w5)) (fun _ tv _=>o.ms.length - (intOf tv).toNat)
   case atStart=>exact ⟨0,N1,by omega,rfl,rfl,by omega,by omega,hide (fun k _ hk=>by omega),hide rfl⟩
   case round=>
    obtain ⟨t,N2,ht,rfl,rfl,hN2,hN2b,HM2,HW6⟩:=hrel;have hw6:=HW6.out;subst hw6;clear HW6;have htb:t*2097153≤2097152*2097153:=Nat.mul_le_mul_right _ (by omega)
    by_cases hltt:t<o.ms.length
    ·have hlttz:(t:Int)<o.ms.length:=by omega
     obtain ⟨mb,mo,hma,hmb,hmcell⟩:=HMC.out (by omega);have c0:=cellB HB4.out (hmcell t hltt);have hrs:=HO.out.2.ms.2 _ (List.getElem_mem hltt);rw[hma]at hme1;have HM3:Hid (∀k (hk:k<o.ms.length),k<t+1→o.ms[k].size≤N2+(1+o.ms[t].size)):=hide fun k hk hkt=>by
      by_cases e':k=t
      ·subst e';omega
      ·have:=HM2.out k hk (by omega);omega
     generalize o.ms[t]=x at c0 hrs HM3;clear hmcell HM2;go_wp2;go_roundw
     case rel=>exact ⟨t+1,N2+(1+x.size),by omega,by go_num,by go_num,by omega,by omega,HM3,by first | exact hide rfl | exact hide trivial⟩
     case measure=>simp[intOf];omega
    ·obtain rfl:t=o.ms.length:=by omega
     have hlttz:¬ ((o.ms.length:Nat):Int)<o.ms.length:=by omega
     by_cases hbig:262144<N2
     ·have hbigz:(262144:Int)<N2:=by omega
      go_wp2;go_ret;exact ⟨RetB.mk false (fun h=>by cases h),HB4.out⟩
     ·have hbigz:¬ (262144:Int)<N2:=by omega
      have HOK:Hid (OpOk o):=hide ⟨by omega,HWP.out (by omega),⟨by omega,fun r hr=>by
       obtain ⟨k,hk,rfl⟩:=List.getElem_of_mem hr;have:=HM2.out k hk hk;omega⟩,by omega,by omega⟩
      go_wp2;go_roundw
      case rel=>exact ⟨j+1,N2,by omega,by go_num,rfl,by omega,.inl (by omega),HB4,hide (HNX.out HOK.out)⟩
      case measure=>simp[intOf];omega
  ·obtain rfl:j=os.length:=by omega
   have hltz:¬ ((os.length:Nat):Int)<os.length:=by omega
   have HFIN:Hid (N≤262144→os.length≤262144∧∀o∈os,OpOk o):=hide fun hN=>⟨by omega,fun o ho=>by
    obtain ⟨k,hk,rfl⟩:=List.getElem_of_mem ho;exact HALL.out k hk hk⟩
   clear HALL;go_wp2;go_ret;exact ⟨RetB.mk _ (fun hb=>HFIN.out (by have:=of_decide_eq_true hb;omega)),HB2.out⟩
def refsBs (refs:List ByteArray):Bs:=refs.flatMap fun r=>bytesOf [wRef,r]
def entBs (p t:ByteArray) (refs:List ByteArray):Bs:=bytesOf [wPath,p]++t.data.toList++bytesOf [wRefs]++refsBs refs++bytesOf [wSum,sumO t]
theorem refsBs_take (refs:List ByteArray) (k:Nat) (h:k<refs.length):refsBs (refs.take (k+1))=refsBs (refs.take k)++bytesOf [wRef,refs[k]]:=by
 unfold refsBs;rw[List.take_succ_eq_append_getElem h,List.flatMap_append];simp
theorem refsBs_take_le (refs:List ByteArray) (k:Nat):(refsBs (refs.take k)).length≤(refsBs refs).length:=by
 conv=>rhs;rw[← List.take_append_drop k refs]
 unfold refsBs;rw[List.flatMap_append,List.length_append];omega
theorem entBs_length (p t:ByteArray) (refs:List ByteArray):(entBs p t refs).length=(bytesOf [wPath,p]).length+t.size+(bytesOf [wRefs]).length+(refsBs refs).length+(bytesOf [wSum,sumO t]).length:=by
 unfold entBs;simp only[List.length_append];have:t.data.toList.length=t.size:=by simp
 omega
theorem str_cells (t:ByteArray):Lib.strCells t=cellsOf t.data.toList:=rfl
theorem K5.new {base:Nat} {w w':World} (h:Below w.heap.size w w') (hb:base≤w.heap.size):K5 base w w':=
 ⟨h.mono hb,fun b o ho _ _=>(h.block b (by have:=(Array.getElem?_eq_some_iff.1 ho).1;exact this)).trans ho⟩
theorem appendEntry_any (base:Nat) (v:Value) (n:Nat) (xs:List Value) (p t:ByteArray) (a:Option Addr) (rn c:Nat) (refs:List ByteArray) (w:World) (hown:w.ownsRow base 5 1 v n xs) (hbase:base≤w.heap.size)
  (hr:∀W,Below base w W→SliceS W (.slice a rn c) refs) (hn:n+(entBs p t refs).length≤1000000000000) :
  Calls Tryz.prog 76 #[v,.string p,.agg #[.string t,.slice a rn c]] w fun e w'=>∃v',e=.returned v'∧w'.ownsRow base 5 1 v' (n+(entBs p t refs).length) (xs++cellsOf (entBs p t refs))∧K5 base w w':=by
 obtain ⟨i0,hi,hz0,hz1,hz2⟩:=info_parts Tryz.info5;have HE:Hid (∀(V:World) (W:Value),V.ownsRow base 5 1 W (n+(bytesOf [wPath,p]).length+t.size+(bytesOf [wRefs]).length+(refsBs refs).length+(bytesOf [wSum,sumO t]).length) (xs++cellsOf (bytesOf [wPath,p])++Lib.strCells t++cellsOf (bytesOf [wRefs])++cellsOf (refsBs refs)++cellsOf (bytesOf [wSum,sumO t]))→V.ownsRow base 5 1 W (n+(entBs p t refs).length) (xs++cellsOf (entBs p t refs))):=hide fun V W h=>by
  rw[entBs_length,show n+((bytesOf [wPath,p]).length+t.size+(bytesOf [wRefs]).length+(refsBs refs).length+(bytesOf [wSum,sumO t]).length)=n+(bytesOf [wPath,p]).length+t.size+(bytesOf [wRefs]).length+(refsBs refs).length+(bytesOf [wSum,sumO t]).length by omega];unfold entBs;simp only[cellsOf_append,← str_cells];simpa only[List.append_assoc] using h
 rw[entBs_length]at hn;have hrn:rn=refs.length:=by
  obtain ⟨_,_,e,_⟩:=hr w (Below.refl _ _);cases e;rfl
 subst hrn;have cP:Hid (∀W v n xs,World.ownsRow W base 5 1 v n xs→base≤W.heap.size→n+(bytesOf [wPath,p]).length≤1000000000000→Calls Tryz.prog 75 #[v,.slice (some ⟨W.heap.size,0,none⟩) 2 2] (W.alloc (.cells #[.string ⟨#[112,97,116,104]⟩,.string p] 9)) fun e w'=>∃v',e=.returned v'∧w'.ownsRow base 5 1 v' (n+(bytesOf [wPath,p]).length) (xs++cellsOf (bytesOf [wPath,p]))∧K5 base W w'):=hide fun W v n xs h1 h2 h3=>Append_new base _ _ _ [wPath,p] W h1 h2 h3 (by simp) _ rfl _ rfl
 have cR:Hid (∀W v n xs,World.ownsRow W base 5 1 v n xs→base≤W.heap.size→n+(bytesOf [wRefs]).length≤1000000000000→Calls Tryz.prog 75 #[v,.slice (some ⟨W.heap.size,0,none⟩) 1 1] (W.alloc (.cells #[.string ⟨#[114,101,102,115]⟩] 9)) fun e w'=>∃v',e=.returned v'∧w'.ownsRow base 5 1 v' (n+(bytesOf [wRefs]).length) (xs++cellsOf (bytesOf [wRefs]))∧K5 base W w'):=hide fun W v n xs h1 h2 h3=>Append_new base _ _ _ [wRefs] W h1 h2 h3 (by simp) _ rfl _ rfl
 have cS:Hid (∀W v n xs,World.ownsRow W base 5 1 v n xs→base≤W.heap.size→n+(bytesOf [wSum,sumO t]).length≤1000000000000→Calls Tryz.prog 75 #[v,.slice (some ⟨W.heap.size,0,none⟩) 2 2] (W.alloc (.cells #[.string ⟨#[115,117,109]⟩,.string (sumO t)] 9)) fun e w'=>∃v',e=.returned v'∧w'.ownsRow base 5 1 v' (n+(bytesOf [wSum,sumO t]).length) (xs++cellsOf (bytesOf [wSum,sumO t]))∧K5 base W w'):=hide fun W v n xs h1 h2 h3=>Append_new base _ _ _ [wSum,sumO t] W h1 h2 h3 (by simp) _ rfl _ rfl
 have cF:Hid (∀r W v n xs,World.ownsRow W base 5 1 v n xs→base≤W.heap.size→n+(bytesOf [wRef,r]).length≤1000000000000→Calls Tryz.prog 75 #[v,.slice (some ⟨W.heap.size,0,none⟩) 2 2] (W.alloc (.cells #[.string ⟨#[114,101,102]⟩,.string r] 9)) fun e w'=>∃v',e=.returned v'∧w'.ownsRow base 5 1 v' (n+(bytesOf [wRef,r]).length) (xs++cellsOf (bytesOf [wRef,r]))∧K5 base W w'):=hide fun r W v n xs h1 h2 h3=>Append_new base _ _ _ [wRef,r] W h1 h2 h3 (by simp) _ rfl _ rfl
 have cW:Hid (∀W,Calls Tryz.prog 99 #[.string t] W fun e w'=>e=.returned (.string (sumO t))∧Below W.heap.size W w'):=hide fun W=>Sm.wireSum_any t W (by unfold maxLen;omega)
 have HR:=hide hr;clear hr;have hrl:refs.length≤(refsBs refs).length:=by
  clear HE HR hn
  induction refs with
  | nil=>simp
  | cons r l ih=>
   have e:refsBs (r :: l)=bytesOf [wRef,r]++refsBs l:=by simp[refsBs]
   have e2:1≤(bytesOf [wRef,r]).length:=by simp[bytesOf,encs,enc,le_length];omega
   rw[e,List.length_append,List.length_cons];omega
 generalize bytesOf [wPath,p]=B1 at *;generalize bytesOf [wRefs]=B2 at *;generalize bytesOf [wSum,sumO t]=B3 at *;generalize sumO t=su at *;have HF:Hid (∀k (h:k<refs.length),∃B,bytesOf [wRef,refs[k]]=B):=hide fun k h=>⟨_,rfl⟩
 have hb0:=block_new w (.cells #[.string t,.slice a refs.length c] 104);have hown1:=hown.alloc (.cells #[.string t,.slice a refs.length c] 104);have hK1:=(K5.refl base w).alloc hbase (.cells #[.string t,.slice a refs.length c] 104);have hsz1:base≤(w.alloc (.cells #[.string t,.slice a refs.length c] 104)).heap.size:=by simp;omega
 have hz1':(w.alloc (.cells #[.string t,.slice a refs.length c] 104)).heap.size=w.heap.size+1:=by simp
 go_enter Tryz.func76,Tryz.ntmps76
 go_wp2_with fail
 generalize w.alloc (.cells #[.string t,.slice a refs.length c] 104)=W1 at hb0 hown1 hK1 hsz1 hz1' ⊢;rw[← hz1'];clear hz1';refine (cP.out W1 _ _ _ hown1 hsz1 (by omega)).mono ?_;rintro e w2 ⟨v2,rfl,hown2,hk2⟩;have hb2:=hk2.block (by decide) hb0;have hK2:=hK1.trans hk2;have hsz2:=hk2.size;obtain ⟨x20,x21⟩:=two_cells hb2;clear hown1 hk2 hb0
 go_wp2_with (at_builtin;refine Lib.wpList_append_own_string _ rfl (.tmp 13) (.tmp 15) 95 9 rfl base 5 i0 Tryz.underlying95 Tryz.underlying9 hi hz0 hz1 hz2 v2 _ _ rfl hown2 t rfl (by unfold maxLen;omega) (by omega) (by omega) ?_;intro v3 w3 hown3 hgrow3 hnil3)
 have hk3:=(K5.refl base w2).grown hown2 hgrow3 (by omega);have hb3:=hk3.block (by decide) hb2;have hK3:=hK2.trans hk3;have hsz3:=hk3.size;clear hown2 hk3 hgrow3 hnil3 hb2 hK2 x20 x21;refine (cR.out w3 _ _ _ hown3 (by omega) (by omega)).mono ?_;rintro e w4 ⟨v4,rfl,hown4,hk4⟩;have hb4:=hk4.block (by decide) hb3;have hK4:=hide (hK3.trans hk4);have hsz4:=hk4.size;obtain ⟨x40,x41⟩:=two_cells hb4;clear hown3 hk4 hb3 hK3;go_wp2
 go_loopw [0,23] (fun o i w5=>∃k:Nat,k≤refs.length∧i=.int .i64 k∧w5.ownsRow base 5 1 o (n+B1.length+t.size+B2.length+(refsBs (refs.take k)).length) (xs++cellsOf B1++Lib.strCells t++cellsOf B2++cellsOf (refsBs (refs.take k)))∧Hid (K5 base w w5)∧Hid (K5 base w4 w5)) (fun _ i _=>refs.length - (intOf i).toNat)
 case atStart=>exact ⟨0,by omega,rfl,by simpa[refsBs,cellsOf] using hown4,hK4,hide (K5.refl _ _)⟩
 case round=>
  rename_i o i
  obtain ⟨k,hk,rfl,hown5,hK5,hL5⟩:=hrel;have hsz5:=hL5.out.size
  by_cases hlt:k<refs.length
  ·obtain ⟨a',c',e1,e2,e3⟩:=HR.out wr hK5.out.bel;cases e1;obtain ⟨rb,ro,rfl,e4,e5⟩:=e3 (by omega);have g:=e5 k hlt;clear e5;have hle:=refsBs_take_le refs (k+1);have het:=refsBs_take refs k hlt;have HLE:Hid ((refsBs (refs.take (k+1))).length=(refsBs (refs.take k)).length+(bytesOf [wRef,refs[k]]).length):=hide (by rw[het,List.length_append]);have HET:=hide het;rw[HLE.out]at hle;clear het;have cF':=hide (cF.out refs[k]);generalize bytesOf [wRef,refs[k]]=B4 at *;generalize refs[k]=r at *
   go_wp2_with fail
   refine (cF'.out wr _ _ _ hown5 (by omega) (by omega)).mono ?_;rintro e w6 ⟨v6,rfl,hown6,hk6⟩;have hK6:=hide (hK5.out.trans hk6);have hL6:=hide (hL5.out.trans hk6);clear hk6 hown5;go_wp2;go_roundw
   case rel=>
    refine ⟨k+1,by omega,by go_num,?_,hK6,hL6⟩;rw[HLE.out,HET.out,cellsOf_append,← Nat.add_assoc,← List.append_assoc];exact hown6
   case measure=>simp[intOf];omega
  ·obtain rfl:k=refs.length:=by omega
   rw[List.take_length]at hown5;obtain ⟨x50,x51⟩:=two_cells (hL5.out.block (by decide) hb4)
   go_wp2_with fail
   refine (cW.out wr).mono ?_;rintro e w7 ⟨rfl,hb7⟩;have hown7:=own_below hown5 hb7;have hK7:K5 base w w7:=hK5.out.trans (K5.new hb7 (by omega));have hsz7:=hb7.size;clear hown5 hb7 x50 x51
   go_wp2_with fail
   refine (cS.out w7 _ _ _ hown7 (by omega) (by omega)).mono ?_;rintro e w8 ⟨v8,rfl,hown8,hk8⟩;have hK8:=hK7.trans hk8;go_wp2;go_ret;exact ⟨_,rfl,HE.out _ _ hown8,hK8⟩
def entOf (S:List Ent) (p:ByteArray):Bs:=match findS S p with
 | some e=>entBs p (packB e.nodes) e.refs
 | none=>[]
def outBs (S:List Ent) (out:List ByteArray):Bs:=out.flatMap (entOf S)
def expBs (S:List Ent) (out:List ByteArray):Bs:=bytesOf [wExp]++outBs S out++bytesOf [wEnd]
def exportB (S:List Ent) (roots out:List ByteArray):ByteArray:=if lackR S roots=true then ⟨#[]⟩ else ⟨(expBs S out).toArray⟩
theorem outBs_take (S:List Ent) (out:List ByteArray) (k:Nat) (h:k<out.length):outBs S (out.take (k+1))=outBs S (out.take k)++entOf S out[k]:=by
 unfold outBs;rw[List.take_succ_eq_append_getElem h,List.flatMap_append];simp
theorem outBs_len {S:List Ent} {M:Nat} (h:∀p,(entOf S p).length≤M):∀out:List ByteArray,(outBs S out).length≤out.length*M
 | []=>by simp[outBs]
 | p :: r=>by
  have e:outBs S (p :: r)=entOf S p++outBs S r:=by simp[outBs]
  have h1:=h p;have h2:=outBs_len h r;rw[e,List.length_append,List.length_cons,Nat.add_mul];omega
structure OutOk (S:List Ent) (roots:List ByteArray):Prop where
 len:∀out,ClosR S roots out→out.length≤10
 mem:∀out,ClosR S roots out→∀p∈out,∃e,findS S p=some e∧p.size≤1000000000
 sz:∀p,(entOf S p).length≤2000000000
theorem Export_any (b:Nat) (S:List Ent) (vr:Value) (roots:List ByteArray) (w:World) (hPS:PSt w b S) (hC:ClosedS S) (hr:SliceS w vr roots) (hl:roots.length≤1000000) (hs:∀r∈roots,r.size≤1000000000) (hO:OutOk S roots) :
  Calls Tryz.prog 48 #[.map (some b),vr] w fun e w'=>∃out,ClosR S roots out∧e=.returned (.tuple #[.string (exportB S roots out),.int .i64 (if lackR S roots=true then 15 else 0)])∧Below w.heap.size w w':=by
 have cC:=hide (Closure_any b S vr roots w hPS hC hr hl hs);have HO:=hide hO;have HPS:=hide hPS;clear hr hs hO hPS hC
 by_cases hlk:lackR S roots=true
 ·rw[if_pos hlk]at cC ⊢;go_enter Tryz.func48,Tryz.ntmps48
  go_wp2_with fail
  refine cC.out.mono ?_;rintro e w1 ⟨v1,out,rfl,hv1,hF1,hb1⟩;have HF:Hid (ClosR S roots out∧exportB S roots out=⟨#[]⟩):=hide ⟨hF1,by unfold exportB;rw[if_pos hlk]⟩;clear hv1 hF1;go_wp2
  go_ret2
  exact ⟨out,HF.out.1,(by rw[HF.out.2];rfl),hb1⟩
 ·rw[if_neg hlk]at cC ⊢;go_enter Tryz.func48,Tryz.ntmps48
  go_wp2_with fail
  refine cC.out.mono ?_;rintro e w1 ⟨v1,out,rfl,hv1,hF1,hb1⟩;have hol:=HO.out.len _ hF1;have HM:=hide (HO.out.mem _ hF1);have HZ:=hide HO.out.sz;have hez:=outBs_len HO.out.sz out;have HF:Hid (ClosR S roots out∧exportB S roots out=⟨(expBs S out).toArray⟩):=hide ⟨hF1,by unfold exportB;rw[if_neg hlk]⟩;have HB1:=hide hb1;obtain ⟨va,vc,rfl,hvs⟩:=own_sl hv1;have HV:=hide (own_strs hv1);have cA:Hid (∀W v n xs,World.ownsRow W w1.heap.size 5 1 v n xs→w1.heap.size≤W.heap.size→n+(bytesOf [wExp]).length≤1000000000000→Calls Tryz.prog 75 #[v,.slice (some ⟨W.heap.size,0,none⟩) 1 1] (W.alloc (.cells #[.string ⟨#[101,120,112,111,114,116,45,49]⟩] 9)) fun e w'=>∃v',e=.returned v'∧w'.ownsRow w1.heap.size 5 1 v' (n+(bytesOf [wExp]).length) (xs++cellsOf (bytesOf [wExp]))∧K5 w1.heap.size W w'):=hide fun W v n xs h1 h2 h3=>Append_new _ _ _ _ [wExp] W h1 h2 h3 (by simp) _ rfl _ rfl
  have cZ:Hid (∀W v n xs,World.ownsRow W w1.heap.size 5 1 v n xs→w1.heap.size≤W.heap.size→n+(bytesOf [wEnd]).length≤1000000000000→Calls Tryz.prog 75 #[v,.slice (some ⟨W.heap.size,0,none⟩) 1 1] (W.alloc (.cells #[.string ⟨#[101,110,100]⟩] 9)) fun e w'=>∃v',e=.returned v'∧w'.ownsRow w1.heap.size 5 1 v' (n+(bytesOf [wEnd]).length) (xs++cellsOf (bytesOf [wEnd]))∧K5 w1.heap.size W w'):=hide fun W v n xs h1 h2 h3=>Append_new _ _ _ _ [wEnd] W h1 h2 h3 (by simp) _ rfl _ rfl
  have HX:Hid (expBs S out=bytesOf [wExp]++outBs S out++bytesOf [wEnd]):=hide rfl;have hle1:(bytesOf [wExp]).length=16:=by decide
  have hle2:(bytesOf [wEnd]).length=16:=by decide
  generalize bytesOf [wExp]=B1 at *;generalize bytesOf [wEnd]=B2 at *;clear hv1 hF1 cC HO hb1 hvs
  go_wp2_with fail
  refine (cA.out w1 _ 0 [] (World.ownsRow_nil _ _ _ _) (Nat.le_refl _) (by omega)).mono ?_;rintro e w2 ⟨v2,rfl,hown2,hk2⟩;have HK2:=hide hk2;clear hk2 cA;go_wp2
  go_loopw [8,24] (fun o i w5=>∃k:Nat,k≤out.length∧i=.int .i64 k∧w5.ownsRow w1.heap.size 5 1 o (B1.length+(outBs S (out.take k)).length) (cellsOf B1++cellsOf (outBs S (out.take k)))∧Hid (K5 w1.heap.size w1 w5)) (fun _ i _=>out.length - (intOf i).toNat)
  case atStart=>exact ⟨0,by omega,rfl,by simpa[outBs,cellsOf] using hown2,HK2⟩
  case round=>
   rename_i o i
   obtain ⟨k,hk,rfl,hown5,HK5⟩:=hrel;have hsz5:=HK5.out.size
   by_cases hlt:k<out.length
   ·obtain ⟨a',c',e1,e2,e3⟩:=HV.out.below HK5.out.bel;cases e1;obtain ⟨rb,ro,rfl,e4,e5⟩:=e3 (by omega);have g:=e5 k hlt;clear e5;obtain ⟨en,hfe,hps⟩:=HM.out _ (List.getElem_mem hlt);obtain ⟨L,hM1,hEs⟩:=HPS.out.below HB1.out;have hMp:MapAt wr b L:=hM1.blk (HK5.out.bel.block b (World.ownsMap.lt hM1));have hfd:=hEs.find out[k];rw[hfe]at hfd;obtain ⟨ea,en',ec,hfk,hrs⟩:=hfd;have hlook:=look_raw Tryz.underlying69 (zero103 _) hMp hps;rw[hfk,Option.getD_some]at hlook;have het:=outBs_take S out k hlt;have heo:entOf S out[k]=entBs out[k] (packB en.nodes) en.refs:=by unfold entOf;rw[hfe]
    have hz:=HZ.out out[k];have hle:(outBs S (out.take k)).length≤20000000000:=by
     have h1:=outBs_len HZ.out (out.take k);rw[List.length_take]at h1;have:min k out.length*2000000000≤10*2000000000:=Nat.mul_le_mul_right _ (by omega);omega
    rw[heo]at het hz;have HET:=hide het;have HRS:Hid (∀W,Below w1.heap.size wr W→SliceS W (.slice ea en' ec) en.refs):=hide fun W hW=>hrs.below (HK5.out.bel.trans hW)
    have cE:=hide (appendEntry_any w1.heap.size _ _ _ out[k] (packB en.nodes) ea en' ec en.refs wr hown5 hsz5 HRS.out (by omega));generalize entBs out[k] (packB en.nodes) en.refs=B5 at *;generalize out[k]=pk at *;generalize packB en.nodes=tb at *;clear hMp hM1 hEs hfk hrs hown5 heo het
    go_wp2_with fail
    refine cE.out.mono ?_;rintro e w6 ⟨v6,rfl,hown6,hk6⟩;have HK6:=hide (HK5.out.trans hk6);clear hk6 cE;go_wp2;go_roundw
    case rel=>
     refine ⟨k+1,by omega,by go_num,?_,HK6⟩;rw[HET.out,List.length_append,cellsOf_append,← Nat.add_assoc,← List.append_assoc];exact hown6
    case measure=>simp[intOf];omega
   ·obtain rfl:k=out.length:=by omega
    rw[List.take_length]at hown5
    go_wp2_with fail
    have hle:(outBs S out).length≤20000000000:=by
     have:out.length*2000000000≤10*2000000000:=Nat.mul_le_mul_right _ hol;omega
    refine (cZ.out wr _ _ _ hown5 hsz5 (by omega)).mono ?_;rintro e w7 ⟨v7,rfl,hown7,hk7⟩;have HB7:=hide (HB1.out.trans ((HK5.out.trans hk7).bel.mono HB1.out.size));have hown8:w7.ownsRow w1.heap.size 5 1 v7 (expBs S out).length (cellsOf (expBs S out)):=by
     rw[HX.out,List.length_append,List.length_append,cellsOf_append,cellsOf_append];exact hown7
    obtain ⟨a8,c8,rfl,hcv⟩:=Sm.own_string _ _ _ _ hown8 (by rw[HX.out];simp;omega);have HF':=HF;generalize expBs S out=EB at *;clear hown7 hown8 hk7 cZ;go_wp2
    go_ret2
    exact ⟨out,HF.out.1,(by rw[HF.out.2];rfl),HB7.out⟩
theorem narExport_any (q b:Nat) (S:List Ent) (vr:Value) (roots:List ByteArray) (w:World) (h:NSt w q b S) (hC:ClosedS S) (hr:SliceS w vr roots) (hl:roots.length≤1000000) (hs:∀r∈roots,r.size≤1000000000) (hO:OutOk S roots) :
  Calls Tryz.prog 29 #[.pointer (some ⟨q,0,none⟩),vr] w fun e w'=>∃out,ClosR S roots out∧e=.returned (.tuple #[.string (exportB S roots out),.int .i64 (if lackR S roots=true then 15 else 0)])∧Below w.heap.size w w':=by
 have cE:=hide (entries_any q b w h.1);have cC:=hide (Export_any b S vr roots w h.2 hC hr hl hs hO);obtain ⟨ra,rc,rfl,_⟩:=hr;generalize (if lackR S roots=true then (15:Int) else 0)=z at cC ⊢;clear h hC hs hO;go_enter Tryz.func29,Tryz.ntmps29
 go_wp2_with fail
 refine cE.out.mono ?_;rintro e w1 ⟨rfl,rfl⟩
 go_wp2_with fail
 refine cC.out.mono ?_;rintro e w2 ⟨out,hF,rfl,hb⟩;have HR:=hide (And.intro hF hb);clear hF hb cC;go_wp2
 go_ret2
 exact ⟨out,HR.out.1,rfl,HR.out.2⟩
theorem fro_new (w:World) (cs:Array Value) (t:TypeId) (j:Nat):(w.alloc (.cells cs t)).frozen? ⟨w.heap.size,j,none⟩=false:=by
 have hk:=block_new w (.cells cs t);generalize w.alloc (.cells cs t)=W at hk ⊢;simp[World.frozen?,hk]
theorem reg30_8 (b be offe n cv i:Nat) (z zp:ByteArray) (ta ra:Option Addr) (tn tc rn rc:Nat) (w:World) (hin:i<n) (c8:w.cell? ⟨b,0,none⟩=some (.slice (some ⟨be,offe,none⟩) n cv)) (e80:w.cell? ⟨be,offe+i*3,none⟩=some (.string zp)) (e81:w.cell? ⟨be,offe+i*3+1,none⟩=some (.slice ta tn tc)) (e82:w.cell? ⟨be,offe+i*3+2,none⟩=some (.slice ra rn rc))
  (cA:∀V:World,Below w.heap.size w V→Calls Tryz.prog 39 #[.slice (some ⟨be,offe,none⟩) n cv,.string z] V fun e w'=>e=.returned (.int .i64 (i:Nat))∧Below V.heap.size V w') (u1 u2 u3 u4 u5 u6 u7 u8 u9 u11 u12 u13 u14 u15 u16 u17 u18 u19 u20 u21 u22 u23 u24 u25 u26 u27 u28 u29 u30 u31 u32 u33 u34 u35 u36 u37 u38 u39 u40 u41 u42 u43 u44 u45 u46 u47 u48 u49 u50 u51 u52 u53 u54 u55 u56 u57 u58 u59 u60 u61 u62 u63 u64 u65 u66 u67 u68 u69 u70 u71 u72 u73 u74 u75 u76 u77:Value) :
  Code.wp Tryz.prog (regC Tryz.f30 8) (Exit.then (fun a w'=>∃r:Nat,(∃v31 v32 v33 v34 v35 v36 v37 v38 v39 v40 v41 v42:Value,a=⟨#[.pointer (some ⟨b,0,none⟩),u1,u2,u3,u4,u5,u6,u7,u8,u9,.string z,.pointer (some ⟨r,0,none⟩),u12,u13,u14,u15,u16,u17,u18,u19,u20,u21,u22,u23,u24,u25,u26,u27,u28,u29,u30,v31,v32,v33,v34,v35,v36,v37,v38,v39,v40,v41,v42,u43,u44,u45,u46,u47,u48,u49,u50,u51,u52,u53,u54,u55,u56,u57,u58,u59,u60,u61,u62,u63,u64,u65,u66,u67,u68,u69,u70,u71,u72,u73,u74,u75,u76,u77],[]⟩)∧Hid (w'.heap[r]?=some (.cells #[.string zp,.slice ta tn tc,.slice ra rn rc] 76 (0,0)))∧Below w.heap.size w w') (fun _ _ _=>False)) ⟨#[.pointer (some ⟨b,0,none⟩),u1,u2,u3,u4,u5,u6,u7,u8,u9,.string z,u11,u12,u13,u14,u15,u16,u17,u18,u19,u20,u21,u22,u23,u24,u25,u26,u27,u28,u29,u30,u31,u32,u33,u34,u35,u36,u37,u38,u39,u40,u41,u42,u43,u44,u45,u46,u47,u48,u49,u50,u51,u52,u53,u54,u55,u56,u57,u58,u59,u60,u61,u62,u63,u64,u65,u66,u67,u68,u69,u70,u71,u72,u73,u74,u75,u76,u77],[]⟩ w:=by
 unfold regC
 conv=>arg 2;whnf
 have hbl:b<w.heap.size:=World.block_lt_of_cell? w _ c8;have hbel:be<w.heap.size:=World.block_lt_of_cell? w _ e80;have p1:b≠w.heap.size:=Nat.ne_of_lt hbl;have p2:w.heap.size≠b:=p1.symm;have p3:be≠w.heap.size:=Nat.ne_of_lt hbel;have p4:w.heap.size≠be:=p3.symm;have HA:=hide cA;have hiz:(0:Int)≤(i:Int):=by omega
 have hilz:(i:Int)<(n:Int):=by omega
 have HW0:=hide (drewB w);have f0:∀o,(w.drew.alloc o).cell? ⟨b,0,none⟩=some (.slice (some ⟨be,offe,none⟩) n cv):=fun o=>cellB (belA HW0.out o) c8
 have f1:∀o,(w.drew.alloc o).cell? ⟨be,offe+i*3,none⟩=some (.string zp):=fun o=>cellB (belA HW0.out o) e80
 have f2:∀o,(w.drew.alloc o).cell? ⟨be,offe+i*3+1,none⟩=some (.slice ta tn tc):=fun o=>cellB (belA HW0.out o) e81
 have f3:∀o,(w.drew.alloc o).cell? ⟨be,offe+i*3+2,none⟩=some (.slice ra rn rc):=fun o=>cellB (belA HW0.out o) e82
 clear cA
 go_region_held3 (fun w'=>w'.cell? ⟨b,0,none⟩=some (.slice (some ⟨be,offe,none⟩) n cv)∧w'.cell? ⟨be,offe+i*3,none⟩=some (.string zp)∧w'.cell? ⟨be,offe+i*3+1,none⟩=some (.slice ta tn tc)∧w'.cell? ⟨be,offe+i*3+2,none⟩=some (.slice ra rn rc)) (go_keep) (first
  | (go_at_call 39;refine (HA.out _ (by first | exact HW0.out | exact belA HW0.out _)).mono ?_;rintro e w1 ⟨rfl,hb1⟩;have HW1:=hide (HW0.out.trans ((by first | exact hb1 | exact (belA (Below.refl _ _) _).trans (hb1.mono (belA (Below.refl _ _) _).size)):Below w.drew.heap.size w.drew w1));have g0:=cellB HW1.out c8;have g1:=cellB HW1.out e80;have g2:=cellB HW1.out e81;have g3:=cellB HW1.out e82;have g4:∀o,(w1.alloc o).cell? ⟨be,offe+i*3,none⟩=some (.string zp):=(fun o=>cellB (belA HW1.out o) e80);have g5:∀o,(w1.alloc o).cell? ⟨be,offe+i*3+1,none⟩=some (.slice ta tn tc):=(fun o=>cellB (belA HW1.out o) e81);have g6:∀o,(w1.alloc o).cell? ⟨be,offe+i*3+2,none⟩=some (.slice ra rn rc):=(fun o=>cellB (belA HW1.out o) e82);obtain ⟨m0,m1,m2⟩:=three_new w1 (.string ⟨#[]⟩) (.slice none 0 0) (.slice none 0 0) 76;have m3:=fro_new w1 #[.string ⟨#[]⟩,.slice none 0 0,.slice none 0 0] 76;have q1:b≠w1.heap.size:=(Nat.ne_of_lt (Nat.lt_of_lt_of_le hbl HW1.out.size));have q2:w1.heap.size≠b:=q1.symm;have q3:be≠w1.heap.size:=(Nat.ne_of_lt (Nat.lt_of_lt_of_le hbel HW1.out.size));have q4:w1.heap.size≠be:=q3.symm;try (have kb:w1.heap[w.heap.size]?=some (.cells #[.string ⟨#[]⟩,.slice none 0 0,.slice none 0 0] 76 (0,0)):=((hb1.block _ (by simp)).trans (block_new w.drew _));have k0:w1.cell? ⟨w.heap.size,0,none⟩=some (.string ⟨#[]⟩):=(by simp[World.cell?,kb]);have k1:w1.cell? ⟨w.heap.size,1,none⟩=some (.slice none 0 0):=(by simp[World.cell?,kb]);have k2:w1.cell? ⟨w.heap.size,2,none⟩=some (.slice none 0 0):=(by simp[World.cell?,kb]);have k3:∀j,w1.frozen? ⟨w.heap.size,j,none⟩=false:=(fun j=>by simp[World.frozen?,kb]))))
 all_goals first
  | exact ⟨_,⟨_,_,_,_,_,_,_,_,_,_,_,_,rfl⟩,hide (block_new w1 _),belA HW1.out _⟩
  | exact ⟨_,⟨_,_,_,_,_,_,_,_,_,_,_,_,rfl⟩,hide (row3 kb),(((HW1.out.setCell (Nat.le_refl _) _).setCell (Nat.le_refl _) _).setCell (Nat.le_refl _) _)⟩
theorem refs_len:∀refs:List ByteArray,refs.length≤(refsBs refs).length
 | []=>by simp
 | r :: l=>by
  have e:refsBs (r :: l)=bytesOf [wRef,r]++refsBs l:=by simp[refsBs]
  have e2:1≤(bytesOf [wRef,r]).length:=by simp[bytesOf,encs,enc,le_length];omega
  have:=refs_len l;rw[e,List.length_append,List.length_cons];omega
theorem encB_one (s:ByteArray):encB s=encsB [s]:=by simp[encB,encsB,bytesOf,encs]
theorem encsB_size (ss:List ByteArray):(encsB ss).size=(bytesOf ss).length:=by simp[encsB,ByteArray.size]
theorem sz_data {t:ByteArray} {l:Bs} (h:t.data.toList=l):t.size=l.length:=by rw[← h];simp
theorem rExport_any (b:Nat) (S:List Ent) (vr:Value) (roots:List ByteArray) (w:World) (h:RSt w b S) (hC:ClosedS S) (hG:GoodS S) (hr:SliceS w vr roots) (hl:roots.length≤1000000) (hO:OutOk S roots) :
  Calls Tryz.prog 30 #[.pointer (some ⟨b,0,none⟩),vr] w fun e w'=>∃out,ClosR S roots out∧e=.returned (.tuple #[.string (exportB S roots out),.int .i64 (if lackR S roots=true then 15 else 0)])∧Below w.heap.size w w':=by
 have cC:=hide (rClosure_any b S vr roots w h hC hr hl);have HO:=hide hO;have H:=hide h;have HG:=hide hG;clear hr hO h hC
 by_cases hlk:lackR S roots=true
 ·rw[if_pos hlk]at cC ⊢;go_enter Tryz.func30,Tryz.ntmps30
  go_wp2_with fail
  refine cC.out.mono ?_;rintro e w1 ⟨v1,out,rfl,hv1,hF1,hb1⟩;have HF:Hid (ClosR S roots out∧exportB S roots out=⟨#[]⟩):=hide ⟨hF1,by unfold exportB;rw[if_pos hlk]⟩;clear hv1 hF1;go_wp2
  go_ret2
  exact ⟨out,HF.out.1,(by rw[HF.out.2];rfl),hb1⟩
 ·rw[if_neg hlk]at cC ⊢;go_enter Tryz.func30,Tryz.ntmps30
  go_wp2_with fail
  refine cC.out.mono ?_;rintro e w1 ⟨v1,out,rfl,hv1,hF1,hb1⟩;have hol:=HO.out.len _ hF1;have HM:=hide (HO.out.mem _ hF1);have HZ:=hide HO.out.sz;have HF:Hid (ClosR S roots out∧exportB S roots out=⟨(expBs S out).toArray⟩):=hide ⟨hF1,by unfold exportB;rw[if_neg hlk]⟩;have HB1:=hide hb1;obtain ⟨va,vc,rfl,hvs⟩:=own_sl hv1;have HV:=hide (own_strs hv1);obtain ⟨v,l,hS1,hS2,hS3,hS4⟩:=(H.out.below hb1).at_;obtain ⟨av,cv,rfl,hcv,hcE⟩:=hS2;have hl10:l.length≤10:=by have:=hS3.length;have:=HG.out.few;omega
  have HS2:Hid (SliceE w1 (.slice av l.length cv) l):=hide ⟨av,cv,rfl,hcv,hcE⟩;have HS3:=hide hS3;have C0:Hid (w1.cell? ⟨b,0,none⟩=some (.slice av l.length cv)):=hide (by simp[World.cell?,hS1]);have HE:=hide hcE;have cX:Hid (∀V:World,Calls Tryz.prog 49 #[.string ⟨#[101,120,112,111,114,116,45,49]⟩] V fun e w'=>e=.returned (.string (encsB [wExp]))∧Below V.heap.size V w'):=hide fun V=>by rw[← encB_one];exact Str_any wExp V (by decide)
  have cR:Hid (∀V:World,Calls Tryz.prog 49 #[.string ⟨#[114,101,102,115]⟩] V fun e w'=>e=.returned (.string (encsB [wRefs]))∧Below V.heap.size V w'):=hide fun V=>by rw[← encB_one];exact Str_any wRefs V (by decide)
  have cN:Hid (∀V:World,Calls Tryz.prog 49 #[.string ⟨#[101,110,100]⟩] V fun e w'=>e=.returned (.string (encsB [wEnd]))∧Below V.heap.size V w'):=hide fun V=>by rw[← encB_one];exact Str_any wEnd V (by decide)
  have dX:Hid ((encsB [wExp]).data.toList=bytesOf [wExp]):=hide (encsB_data _);have dR:Hid ((encsB [wRefs]).data.toList=bytesOf [wRefs]):=hide (encsB_data _);have dN:Hid ((encsB [wEnd]).data.toList=bytesOf [wEnd]):=hide (encsB_data _);have sX:(encsB [wExp]).size=16:=by decide
  have sR:(encsB [wRefs]).size=16:=by decide
  have sN:(encsB [wEnd]).size=16:=by decide
  generalize encsB [wExp]=xX at *;generalize encsB [wRefs]=xR at *;generalize encsB [wEnd]=xN at *;clear hv1 hF1 cC HO hb1 hvs hS1 hS3 hS4 hcE
  go_wp2_with fail
  refine (cX.out w1).mono ?_;rintro e w2 ⟨rfl,hb2⟩;have HB2:=hide hb2;clear hb2 cX;go_wp2
  go_loopw [8,27] (fun o i w5=>∃(k:Nat) (t:ByteArray),k≤out.length∧i=.int .i64 k∧o=.string t∧Hid (t.data.toList=bytesOf [wExp]++outBs S (out.take k))∧Hid (Below w1.heap.size w1 w5)) (fun _ i _=>out.length - (intOf i).toNat)
  case atStart=>exact ⟨0,xX,by omega,rfl,rfl,hide (by rw[dX.out];simp[outBs]),HB2⟩
  case round=>
   obtain ⟨k,t,hk,rfl,rfl,HT,HB5⟩:=hrel
   by_cases hlt:k<out.length
   ·obtain ⟨a',c',e1,e2,e3⟩:=HV.out.below HB5.out;cases e1;obtain ⟨rb,ro,rfl,e4,e5⟩:=e3 (by omega);have g:=e5 k hlt;clear e5;obtain ⟨en,hfe,hps⟩:=HM.out _ (List.getElem_mem hlt);have het:=outBs_take S out k hlt;have heo:entOf S out[k]=entBs out[k] (packB en.nodes) en.refs:=by unfold entOf;rw[hfe]
    have hz:=HZ.out out[k];have hle:(outBs S (out.take k)).length≤20000000000:=by
     have h1:=outBs_len HZ.out (out.take k);rw[List.length_take]at h1;have:min k out.length*2000000000≤10*2000000000:=Nat.mul_le_mul_right _ (by omega);omega
    have htz:t.size≤20000000016:=by
     have h1:=sz_data HT.out;have h2:(bytesOf [wExp]).length=16:=by decide
     rw[List.length_append]at h1;omega
    rw[heo]at het hz;rw[entBs_length]at hz;have HET:=hide het;clear het heo hle;generalize out[k]=pk at *;have hfi:=HS3.out.find pk;rw[hfe]at hfi;rcases hfi with ⟨hf1,_⟩ | ⟨i,hk1,hk2,hf1,hf2⟩
    ·cases hf1
    have hEn:S[i]=en:=by
     first
      | exact (Option.some.inj hf2).symm
      | exact (Option.some.inj hf2)
    obtain ⟨hy0,hy1,hy2⟩:=HS3.out.get i hk1 hk2;clear hy0;have HTS:=hide (HG.out.tree S[i] (List.getElem_mem _));rw[hEn]at hy1 hy2 HTS;obtain ⟨be,offe,rfl,hbl,hE⟩:=HE.out (by omega);obtain ⟨e0,e1,e22⟩:=hE i hk1;have HY1:=hide hy1;have HY2:=hide hy2;have HC:Hid (w1.cell? ⟨be,offe+i*3,none⟩=some (.string l[i].path)∧w1.cell? ⟨be,offe+i*3+1,none⟩=some l[i].tree∧w1.cell? ⟨be,offe+i*3+2,none⟩=some l[i].refs):=hide ⟨e0,e1,e22⟩;have cA:Hid (∀V:World,Below wr.heap.size wr V→Calls Tryz.prog 39 #[.slice (some ⟨be,offe,none⟩) l.length cv,.string pk] V fun e w'=>e=.returned (.int .i64 (i:Nat))∧Below V.heap.size V w'):=hide fun V hV=>by
     have:=at_any (.slice (some ⟨be,offe,none⟩) l.length cv) l pk V (HS2.out.below (HB5.out.trans (hV.mono HB5.out.size))) (by omega);rw[hf1]at this;exact this
    clear hf1 hf2 hy1 hy2 hE e0 e1 e22 hfe hEn;obtain ⟨yp,ta,tn,tc,ra,rn,rc,hy⟩:∃yp ta tn tc ra rn rc,l[i]=(⟨yp,ta,tn,tc,ra,rn,rc⟩:REn):=by
     obtain ⟨yp,ta,tn,tc,ra,rn,rc⟩:=l[i];exact ⟨_,_,_,_,_,_,_,rfl⟩
    rw[hy]at HY1 HY2 HC;unfold REn.tree at HY1 HC;unfold REn.refs at HY2 HC;simp only at HY1 HY2 HC;clear hy;have HZ5:=hide (And.intro hz (And.intro htz hps));have HKK:=hide (And.intro hk1 (And.intro hk2 (And.intro e2 (And.intro e4 hbl))));clear hz htz hps hk2 e2 e4 hbl hk1
    go_wp2_with fail
    refine wp_mono (reg30_8 b be offe l.length cv i pk yp ta ra tn tc rn rc wr HKK.out.1 (cellB HB5.out C0.out) (cellB HB5.out HC.out.1) (cellB HB5.out HC.out.2.1) (cellB HB5.out HC.out.2.2) cA.out _ _ _ _ _ _ _ _ _ _ _ _ _ _ _ _ _ _ _ _ _ _ _ _ _ _ _ _ _ _ _ _ _ _ _ _ _ _ _ _ _ _ _ _ _ _ _ _ _ _ _ _ _ _ _ _ _ _ _ _ _ _ _ _ _ _ _ _ _ _ _ _ _ _ _ _) (reg_then ?_);rintro a8 w8 ⟨r,⟨v31,v32,v33,v34,v35,v36,v37,v38,v39,v40,v41,v42,rfl⟩,hr8,hb8⟩;have HR8:=hide hr8.out;have HB8:=hide (HB5.out.trans (hb8.mono HB5.out.size));clear hb8 hr8;have hrn:rn=en.refs.length:=by
     obtain ⟨_,_,e,_⟩:=HY2.out;cases e;rfl
    subst hrn;have cP:=hide (refPack_tree _ en.nodes w8 (HY1.out.below HB8.out) HTS.out);have sP:=HZ5.out.1;have sT:=HZ5.out.2.1;have hrl:en.refs.length≤(refsBs en.refs).length:=refs_len _;have cS:Hid (∀V:World,Calls Tryz.prog 51 #[.slice (some ⟨V.heap.size,0,none⟩) 2 2] (V.alloc (.cells #[.string ⟨#[112,97,116,104]⟩,.string pk] 9)) fun e w'=>e=.returned (.string (encsB [wPath,pk]))∧Below V.heap.size V w'):=hide fun V=>strs_new [wPath,pk] V (by omega) (by simp) _ rfl _ rfl _ rfl
    have cU:Hid (∀V:World,Calls Tryz.prog 51 #[.slice (some ⟨V.heap.size,0,none⟩) 2 2] (V.alloc (.cells #[.string ⟨#[115,117,109]⟩,.string (sumO (packB en.nodes))] 9)) fun e w'=>e=.returned (.string (encsB [wSum,sumO (packB en.nodes)]))∧Below V.heap.size V w'):=hide fun V=>strs_new [wSum,sumO (packB en.nodes)] V (by omega) (by simp) _ rfl _ rfl _ rfl
    have cW:Hid (∀V:World,Calls Tryz.prog 52 #[.string (packB en.nodes)] V fun e w'=>e=.returned (.string (sumO (packB en.nodes)))∧Below V.heap.size V w'):=hide fun V=>Sm.ref_any _ V (by unfold maxLen;omega)
    have cF:Hid (∀(m:Nat) (hm:m<en.refs.length) (V:World),Calls Tryz.prog 51 #[.slice (some ⟨V.heap.size,0,none⟩) 2 2] (V.alloc (.cells #[.string ⟨#[114,101,102]⟩,.string en.refs[m]] 9)) fun e w'=>e=.returned (.string (encsB [wRef,en.refs[m]]))∧Below V.heap.size V w'):=hide fun m hm V=>strs_new [wRef,en.refs[m]] V (by
     have h1:=refsBs_take_le en.refs (m+1);rw[refsBs_take en.refs m hm,List.length_append]at h1;omega) (by simp) _ rfl _ rfl _ rfl
    have dP:Hid ((encsB [wPath,pk]).data.toList=bytesOf [wPath,pk]):=hide (encsB_data _);have dU:Hid ((encsB [wSum,sumO (packB en.nodes)]).data.toList=bytesOf [wSum,sumO (packB en.nodes)]):=hide (encsB_data _);have zP:(encsB [wPath,pk]).size≤2000000000:=by rw[encsB_size];omega
    have zU:(encsB [wSum,sumO (packB en.nodes)]).size≤2000000000:=by rw[encsB_size];omega
    have zB:(packB en.nodes).size≤2000000000:=by omega
    have HRL:Hid ((refsBs en.refs).length≤2000000000∧en.refs.length≤2000000000):=hide ⟨by omega,by omega⟩;have hrm:=HRL.out.2;have HEN:Hid (entBs pk (packB en.nodes) en.refs=bytesOf [wPath,pk]++(packB en.nodes).data.toList++bytesOf [wRefs]++refsBs en.refs++bytesOf [wSum,sumO (packB en.nodes)]):=hide rfl;clear hrl sP;generalize encsB [wPath,pk]=xP at cS dP zP;generalize encsB [wSum,sumO (packB en.nodes)]=xU at cU dU zU;generalize sumO (packB en.nodes)=su at cU cW HEN dU;generalize packB en.nodes=pb at cP cW HEN zB HET;obtain ⟨b80,b81,b82⟩:=box_cells HR8.out
    go_wp2_with fail
    refine cP.out.mono ?_;rintro e w9 ⟨rfl,hb9⟩;have HR9:=hide ((hb9.block r (lt_of_block HR8.out)).trans HR8.out);have HB9:=hide (HB8.out.trans (hb9.mono HB8.out.size));clear hb9 cP b80 b81 b82 HR8 HB8
    go_wp2_with fail
    refine (cS.out w9).mono ?_;rintro e w10 ⟨rfl,hb10⟩;have HR10:=hide ((hb10.block r (lt_of_block HR9.out)).trans HR9.out);have HB10:=hide (HB9.out.trans (hb10.mono HB9.out.size));clear hb10 cS HR9 HB9
    go_wp2_with fail
    refine (cR.out w10).mono ?_;rintro e w11 ⟨rfl,hb11⟩;have HR11:=hide ((hb11.block r (lt_of_block HR10.out)).trans HR10.out);have HB11:=hide (HB10.out.trans (hb11.mono HB10.out.size));clear hb11 HR10 HB10;obtain ⟨b80,b81,b82⟩:=box_cells HR11.out;go_wp2
    go_loopw [8,58] (fun o i w5=>∃(j:Nat) (t2:ByteArray),j≤en.refs.length∧i=.int .i64 j∧o=.string t2∧Hid (t2.data.toList=t.data.toList++(bytesOf [wPath,pk]++pb.data.toList++bytesOf [wRefs])++refsBs (en.refs.take j))∧Hid (Below w1.heap.size w1 w5)) (fun _ i _=>en.refs.length - (intOf i).toNat)
    case atStart=>exact ⟨0,_,by omega,rfl,rfl,hide (by simp[refsBs,dP.out,dR.out]),HB11⟩
    case round=>
     obtain ⟨j,t2,hj,rfl,rfl,HT2,HB12⟩:=hrel;have z2:t2.size≤30000000000:=by
      have h1:=sz_data HT2.out;have h2:=refsBs_take_le en.refs j;have h3:=HRL.out.1;have h4:=sz_data dP.out;have h5:=sz_data dR.out;have h6:pb.data.toList.length=pb.size:=by simp
      have h7:t.data.toList.length=t.size:=by simp
      simp only[List.length_append]at h1;omega
     by_cases hlt2:j<en.refs.length
     ·obtain ⟨a',c',e1,e2,e3⟩:=HY2.out.below HB12.out;cases e1;obtain ⟨rb2,ro2,rfl,e4,e5⟩:=e3 (by omega);have g2:=e5 j hlt2;clear e5 e3;have cF':=hide (cF.out j hlt2);have HET2:=hide (refsBs_take en.refs j hlt2);have dF:Hid ((encsB [wRef,en.refs[j]]).data.toList=bytesOf [wRef,en.refs[j]]):=hide (encsB_data _);have zF:(encsB [wRef,en.refs[j]]).size≤2000000000:=by
       have h1:=refsBs_take_le en.refs (j+1);have h3:=HRL.out.1;rw[HET2.out,List.length_append]at h1;rw[encsB_size];omega
      generalize encsB [wRef,en.refs[j]]=xF at cF' dF zF;generalize en.refs[j]=rr at cF' HET2 dF g2
      go_wp2_with fail
      refine (cF'.out _).mono ?_;rintro e w13 ⟨rfl,hb13⟩;have HB13:=hide (HB12.out.trans (hb13.mono HB12.out.size));clear hb13 cF';go_wp2;go_roundw
      case rel=>exact ⟨j+1,_,by omega,by go_num,rfl,hide (by rw[data_appendV,HT2.out,HET2.out,dF.out];simp only[List.append_assoc]),HB13⟩
      case measure=>simp[intOf];omega
     ·obtain rfl:j=en.refs.length:=by omega
      go_wp2_with fail
      refine (cW.out _).mono ?_;rintro e w14 ⟨rfl,hb14⟩;have HB14:=hide (HB12.out.trans (hb14.mono HB12.out.size));clear hb14 cW
      go_wp2_with fail
      refine (cU.out w14).mono ?_;rintro e w15 ⟨rfl,hb15⟩;have HB15:=hide (HB14.out.trans (hb15.mono HB14.out.size));clear hb15 cU;go_wp2;go_roundw
      case rel=>
       refine ⟨k+1,_,by omega,by go_num,rfl,hide ?_,HB15⟩;rw[data_appendV,HT2.out,HET.out,HEN.out,dU.out,List.take_length,HT.out];simp only[List.append_assoc]
      case measure=>simp[intOf];omega
   ·obtain rfl:k=out.length:=by omega
    have htz:t.size≤20000000016:=by
     have h1:=sz_data HT.out;have h2:(bytesOf [wExp]).length=16:=by decide
     have h3:=outBs_len HZ.out out;have:out.length*2000000000≤10*2000000000:=Nat.mul_le_mul_right _ hol;rw[List.length_append,List.take_length]at h1;omega
    go_wp2_with fail
    refine (cN.out wr).mono ?_;rintro e w7 ⟨rfl,hb7⟩;have HB7:=hide (HB1.out.trans ((HB5.out.trans (hb7.mono HB5.out.size)).mono HB1.out.size));clear hb7 cN;go_wp2
    go_ret2
    refine ⟨out,HF.out.1,?_,HB7.out⟩;rw[HF.out.2];have e9:t++xN=⟨(expBs S out).toArray⟩:=by
     have e8:(t++xN).data.toList=expBs S out:=by
      rw[data_appendV,HT.out,dN.out,List.take_length];rfl
     rw[← e8]
    rw[e9];rfl
theorem refsBs_le {M:Nat}:∀{refs:List ByteArray},(∀r∈refs,r.size≤M)→(refsBs refs).length≤refs.length*(M+40)
 | [],_=>by simp[refsBs]
 | r :: l,h=>by
  have e:refsBs (r :: l)=bytesOf [wRef,r]++refsBs l:=by simp[refsBs]
  have h1:=bytesOf_cons wRef [r];have h2:=bytesOf_cons r [];have a:wRef.size=3:=rfl;have h3:=h r (List.mem_cons_self);have h4:=refsBs_le (fun x hx=>h x (List.mem_cons_of_mem _ hx));rw[bytesOf_nil]at h2;rw[e,List.length_append,List.length_cons,Nat.add_mul];simp at h2;omega
theorem ent_small {S:List Ent} (h:OkE S) (p:ByteArray):(entOf S p).length≤42000:=by
 unfold entOf
 split
 ·rename_i e hf
  obtain ⟨he,rfl⟩:=findS_some hf;rw[entBs_length];have h1:=bytesOf_cons wPath [e.path];have h2:=bytesOf_cons e.path [];have h3:=bytesOf_cons wRefs [];have h4:=bytesOf_cons wSum [sumO (packB e.nodes)];have h5:=bytesOf_cons (sumO (packB e.nodes)) [];have a1:wPath.size=4:=rfl;have a2:wRefs.size=4:=rfl;have a3:wSum.size=3:=rfl;have a4:=sumO_size (packB e.nodes);have hw:firstW e.nodes=none:=by rw[firstW_ref];exact (h.ok.tree e he).1.right
  have h10:=tree_small hw;have h11:=bulk_tree e.nodes h10.2;have h6:=packB_bulk e.nodes;have h7:=h.path e he;have h8:=refsBs_le (M:=12) (refs:=e.refs) (fun r hr=>by
   obtain ⟨f,hf',rfl⟩:=h.ok.closed.ref e he r hr;exact h.path f hf')
  have h9:=h.few e he;rw[bytesOf_nil]at h2 h3 h5;simp at h2 h3 h5;omega
 ·simp
theorem OutOk.of {S:List Ent} (h:OkE S) (roots:List ByteArray):OutOk S roots where
 len out ho:=by
  unfold ClosR at ho
  split at ho
  ·rw[ho];simp
  ·have:=ho.1.len;have:=h.ok.closed.few;omega
 mem out ho p hp:=by
  unfold ClosR at ho
  split at ho
  ·rw[ho]at hp;cases hp
  ·obtain ⟨_,e,he,rfl⟩:=ho.1.mem p hp;exact ⟨e,findS_eq h.ok.closed.rise he,by have:=h.path e he;omega⟩
 sz p:=by have:=ent_small h p;omega
theorem export_small {S:List Ent} (h:OkE S) (roots out:List ByteArray) (ho:ClosR S roots out):(exportB S roots out).size≤500000:=by
 have h1:=(OutOk.of h roots).len out ho;have h2:=outBs_len (ent_small h) out;unfold exportB
 split
 ·exact Nat.zero_le _
 ·have h3:=bytesOf_cons wExp [];have h4:=bytesOf_cons wEnd [];have a1:wExp.size≤100:=by decide
  have a2:wEnd.size≤100:=by decide
  rw[bytesOf_nil]at h3 h4;show (expBs S out).toArray.size≤_;unfold expBs;simp only[List.size_toArray,List.length_append];simp at h3 h4;omega
end Go.Proofs.YticfcjmlphhpgaaGreatDoor
