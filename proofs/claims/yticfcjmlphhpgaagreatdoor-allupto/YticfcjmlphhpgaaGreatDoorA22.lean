import Derived.Test.YticfcjmlphhpgaaGreatDoorA20
import Derived.Test.YticfcjmlphhpgaaGreatDoorA21
set_option maxRecDepth 20000
set_option maxHeartbeats 4000000
namespace Go.Proofs.YticfcjmlphhpgaaGreatDoor
open Go.RowKit
theorem firstW_ref (ns:List Nd):firstW ns=refWrong ns:=firstW_eq ns
theorem strs_cells {w:World} {b off:Nat} {ss:List ByteArray} (h:∀j (h:j<ss.length),w.cell? ⟨b,off+j,none⟩=some (.string ss[j])):∀j u,(ss.map Value.string)[j]?=some u→w.cell? ((⟨b,off,none⟩:Addr).add j)=some u:=by
 intro j u hj;have hl:j<ss.length:=by have:=(List.getElem?_eq_some_iff.1 hj).1;simpa using this
 have hadd:(⟨b,off,none⟩:Addr).add j=⟨b,off+j,none⟩:=by unfold Addr.add;split <;> simp_all
 rw[hadd,h j hl];simpa[hl] using hj
theorem wpList_append_strs {w:World} {ops:Array Oper} {rest:List Oper} {o:Oper} {a:Act} {Q:Exit→Act→World→Prop} (hgd:o.guard=none) (y:Operand) (ho:o.op=.call {callee:=.builtin .append,args:=#[.const (.slice none 0 0),y],argTypes:=#[26,26]}) (ss:List ByteArray) (v:Value) (hx:a.eval y=v) (hS:SliceS w v ss) (hnil:∀n c,v=.slice none n c→n=0∧c=0) (hl:ss.length≤1000000)
  (h:∀a' c' w',w'.ownsRow w.heap.size 9 1 (.slice a' ss.length c') ss.length (ss.map Value.string)→Below w.heap.size w w'→wpList Tryz.prog ops Q rest (a.put o.dst (.slice a' ss.length c')) w'):wpList Tryz.prog ops Q (o :: rest) a w:=by
 obtain ⟨i9,hi9,h90,h91,h92⟩:=info_parts Tryz.info9;obtain ⟨a1,c1,rfl,hc1,hcE⟩:=hS;have hfin:∀v' w',w'.ownsRow w.heap.size 9 1 v' (0+ss.length) ([]++ss.map Value.string)→w.grownBy w' (Value.slice none 0 0).ownBlock→wpList Tryz.prog ops Q rest (a.put o.dst v') w':=fun v' w' ho' hg=>by
  rw[Nat.zero_add,List.nil_append]at ho';obtain ⟨a',c',rfl,_⟩:=own_sl ho';exact h a' c' w' ho' ((Below.refl _ w).grown hg (Nat.le_refl _) (fun k hk=>by cases hk))
 cases a1 with
 | none=>
  obtain ⟨e1,e2⟩:=hnil _ _ rfl;have e0:ss=[]:=List.eq_nil_of_length_eq_zero e1;subst e0;subst e2;refine wpList_append_own_none hgd (.const (.slice none 0 0)) y 26 ho w.heap.size 9 i9 1 Tryz.underlying26 hi9 (.slice none 0 0) 0 [] rfl (World.ownsRow_nil _ _ _ _) hx ?_;exact h none 0 w (World.ownsRow_nil _ _ _ _) (Below.refl _ _)
 | some ad=>
  refine wpList_append_own _ hgd (.const (.slice none 0 0)) y 26 ho w.heap.size 9 i9 (.string ⟨#[]⟩) 1 16 Tryz.underlying26 hi9 h90 h91 h92 rfl (by decide) (.slice none 0 0) 0 [] rfl (World.ownsRow_nil _ _ _ _) ad ss.length c1 (ss.map Value.string) hx (by simp) ?_ (fun u hu=>by obtain ⟨z,_,rfl⟩:=List.mem_map.1 hu;rfl) (by unfold maxLen;omega) (by omega) (Nat.le_refl _) (fun v' w' h1 h2 _=>hfin v' w' h1 h2)
  by_cases hp:0<ss.length
  ·obtain ⟨b1,off1,hba,_,hC⟩:=hcE hp;injection hba with hba
   subst hba;exact strs_cells hC
  ·intro j u hj;have e0:ss=[]:=List.eq_nil_of_length_eq_zero (by omega);subst e0;simp at hj
theorem built76 (p:ByteArray) (a1 a2:Option Addr) (n1 c1 n2 c2:Nat) :
  Tryz.prog.built 76 [(0,.string p),(1,.slice a1 n1 c1),(2,.slice a2 n2 c2)]=some #[.string p,.slice a1 n1 c1,.slice a2 n2 c2]:=by
 kernel_rfl
theorem wp_build76 {o:Oper} {a:Act} {w:World} {K:Act→World→Prop} {Q:Exit→Act→World→Prop} (t0 t1 t2:Operand) (ho:o.op=.build 76 #[(0,t0),(1,t1),(2,t2)])
  (p:ByteArray) (a1 a2:Option Addr) (n1 c1 n2 c2:Nat) (h0:a.eval t0=.string p) (h1:a.eval t1=.slice a1 n1 c1) (h2:a.eval t2=.slice a2 n2 c2)
  (h:K (a.put o.dst (.agg #[.string p,.slice a1 n1 c1,.slice a2 n2 c2])) w):o.wp Tryz.prog a w K Q:=by
 refine wp_build 76 _ ho ?_ ?_
 ·simp[h0,h1,h2,built76]
 ·simpa[h0,h1,h2,built76] using h
theorem wpList_build76 {ops:Array Oper} {rest:List Oper} {o:Oper} {a:Act} {w:World} {Q:Exit→Act→World→Prop} (hg:o.guard=none) (t0 t1 t2:Operand) (ho:o.op=.build 76 #[(0,t0),(1,t1),(2,t2)])
  (p:ByteArray) (a1 a2:Option Addr) (n1 c1 n2 c2:Nat) (h0:a.eval t0=.string p) (h1:a.eval t1=.slice a1 n1 c1) (h2:a.eval t2=.slice a2 n2 c2)
  (h:wpList Tryz.prog ops Q rest (a.put o.dst (.agg #[.string p,.slice a1 n1 c1,.slice a2 n2 c2])) w):wpList Tryz.prog ops Q (o :: rest) a w:=
 wpList_plain hg fun _ hK=>wp_build76 t0 t1 t2 ho p a1 a2 n1 c1 n2 c2 h0 h1 h2 (hK _ _ h)
theorem cell6 {w1 wr w5 w6:World} {b:Nat} {v:Value} {t:TypeId} {fr:Nat × Nat} (h4:Below w1.heap.size w1 wr) (h5:Below wr.heap.size wr w5) (h6:Below w5.heap.size w5 w6) (h:w1.heap[b]?=some (.cells #[v] t fr)):w6.cell? ⟨b,0,none⟩=some v:=by
 have hb:b<w1.heap.size:=lt_of_block h;have h':=((h4.trans ((h5.trans (h6.mono h5.size)).mono h4.size)).block b hb).trans h;simp[World.cell?,h']
theorem cell7 {w6:World} {b:Nat} {v:Value} (h:w6.cell? ⟨b,0,none⟩=some v) (o:Obj):(w6.alloc o).cell? ⟨b,0,none⟩=some v:=
 (((Below.refl w6.heap.size w6).alloc (Nat.le_refl _) o).cell (World.block_lt_of_cell? w6 _ h)).trans h
theorem rput_any {V:World} {av:Option Addr} {l:List REn} {cv:Nat} (h:SliceE V (.slice av l.length cv) l) (hl:l.length<10) (x:REn) (hnil:l=[]→Value.slice av l.length cv=.slice none 0 0) :
  Calls Tryz.prog 41 #[.slice av l.length cv,.agg #[.string x.path,x.tree,x.refs]] V fun e w'=>∃v,e=.returned v∧w'.ownsRow V.heap.size 76 3 v (insR l x).length (flatR (insR l x))∧Below V.heap.size V w':=by
 by_cases h0:l=[]
 ·subst h0;rw[hnil rfl];exact rput_none x V
 ·obtain ⟨a,c,e,hc,hE⟩:=h;have hpos:0<l.length:=List.length_pos_iff.2 h0;obtain ⟨b,off,rfl,hb,hX⟩:=hE hpos;have hlen:(insR l x).length=l.length+1:=by
   unfold insR;simp only[List.length_append,List.length_take,List.length_drop,List.length_singleton];have:belowN l x.path≤l.length:=List.findIdx_le_length;omega
  rw[hlen,e];exact rput_some b off c l x V hb hc hX (by omega) hpos
theorem one_cell {x y:Value} {i:Nat} (h:(#[x]:Array Value)[i]?=some y):x=y:=by
 cases i with
 | zero=>simpa using h
 | succ i=>simp at h
theorem far_cell {w:World} {b n c k:Nat} {a:Option Addr} {t:TypeId} {fz:Nat × Nat} {s:ByteArray} {b':Nat} (hk:w.heap[b]?=some (.cells #[.slice a n c] t fz)) (h:w.cell? ⟨b',k,none⟩=some (.string s)):b≠b':=fun e=>by
 subst e;simp only[World.cell?,hk]at h;have:=one_cell h;cases this
theorem sliceS_set {w:World} {b n c:Nat} {a:Option Addr} {t:TypeId} {fz:Nat × Nat} {v x:Value} {ss:List ByteArray} (hk:w.heap[b]?=some (.cells #[.slice a n c] t fz)) (h:SliceS w x ss):SliceS (w.setCell ⟨b,0,none⟩ v) x ss:=by
 obtain ⟨a1,c1,rfl,h1,h2⟩:=h;refine ⟨a1,c1,rfl,h1,fun hp=>?_⟩;obtain ⟨b',off,rfl,h3,h4⟩:=h2 hp;refine ⟨b',off,rfl,by simp[World.setCell];exact h3,fun j hj=>?_⟩;have:=h4 j hj;rw[World.cell?_setCell_far _ _ _ _ (far_cell hk this)];exact this
theorem sliceN_set {w:World} {b n c:Nat} {a:Option Addr} {t:TypeId} {fz:Nat × Nat} {v x:Value} {ns:List Nd} (hk:w.heap[b]?=some (.cells #[.slice a n c] t fz)) (h:SliceN w x ns):SliceN (w.setCell ⟨b,0,none⟩ v) x ns:=by
 obtain ⟨a1,c1,rfl,h1,h2,h3,h4⟩:=h;refine ⟨a1,c1,rfl,h1,h2,h3,fun hp=>?_⟩;obtain ⟨b',off,rfl,h5,h6⟩:=h4 hp;refine ⟨b',off,rfl,by simp[World.setCell];exact h5,fun j hj=>?_⟩;have h7:=h6 j hj;have hne:=far_cell hk h7.1;rw[World.cell?_setCell_far _ _ _ _ hne,World.cell?_setCell_far _ _ _ _ hne,World.cell?_setCell_far _ _ _ _ hne];exact h7
theorem RSt.put {w1 w8 w10:World} {b n c:Nat} {a:Option Addr} {S:List Ent} {x:Ent} {v:Value} {l:List REn} {y:REn} (hre:REsAt w8 l S) (hx:REAt w8 y x) (hf:findS S x.path=none)
  (ho:w10.ownsRow w8.heap.size 76 3 v (insR l y).length (flatR (insR l y))) (hb:Below w8.heap.size w8 w10) (hk:w10.heap[b]?=some (.cells #[.slice a n c] 48 (0,0))) (hb8:Below w1.heap.size w1 w8) (hblt:b<w1.heap.size) :
  RSt (w10.setCell ⟨b,0,none⟩ v) b (insS x S)∧Wrote b w1 (w10.setCell ⟨b,0,none⟩ v):=by
 have h18:=hb8.trans (hb.mono hb8.size);refine ⟨⟨v,insR l y,set_blk hk 0 v,own_ents (own_keepT ho (set_keepT hk (by decide))),?_,fun e=>?_⟩,⟨?_,fun k hkl hne=>?_⟩,fun B hB=>?_⟩
 ·exact (REsAt.ins hx hre hf).mono (fun v ns h=>sliceN_set hk (h.below hb)) (fun v ss h=>sliceS_set hk (h.below hb))
 ·cases S with
  | nil=>cases e
  | cons z S=>
   have e2:insS x (z :: S)=if bytesBefore x.path.data.toList z.path.data.toList then x :: z :: S else z :: insS x S:=rfl
   rw[e2]at e
   split at e <;> cases e
 ·have:=h18.size;simp[World.setCell];exact this
 ·exact (Below.heap_setCell _ _ _ _ hne).trans (h18.block k hkl)
 ·exact (h18.mono (by omega)).setCell hB _
theorem undrewB {w V w':World} (h:Below w.heap.size w V) (h':Below V.drew.heap.size V.drew w'):Below w.heap.size w w':=h.trans ((undrew h').mono h.size)
theorem reg43_4 (b r be offe n cv k:Nat) (ta ra:Option Addr) (tn tc rn rc:Nat) (pk sm:ByteArray) (w:World) (hne1:r≠b) (hne2:r≠be) (hkl:k<n) (c8:w.cell? ⟨b,0,none⟩=some (.slice (some ⟨be,offe,none⟩) n cv)) (e81:w.cell? ⟨be,offe+k*3+1,none⟩=some (.slice ta tn tc)) (e82:w.cell? ⟨be,offe+k*3+2,none⟩=some (.slice ra rn rc)) (hrb:w.heap[r]?=some (.cells #[.slice none 0 0,.slice none 0 0,.string ⟨#[]⟩] 80 (0,0)))
  (cP:∀V:World,Below w.heap.size w V→Calls Tryz.prog 50 #[.slice ta tn tc] V fun e w'=>e=.returned (.string pk)∧Below V.heap.size V w') (cS:∀V:World,Calls Tryz.prog 52 #[.string pk] V fun e w'=>e=.returned (.string sm)∧Below V.heap.size V w') (u1 u2 u3 u5 u7 u8 u9 u10 u11 u12 u13 u14 u15 u16 u17 u18 u19 u20 u21 u22 u23 u24 u25 u26 u27 u28 u29 u30 u31 u32 u33 u34 u35 u36 u37 u38 u39 u40 u41 u42:Value) :
  Code.wp Tryz.prog (regC Tryz.f43 4) (Exit.then (fun a w'=>(∃v16 v17 v18 v19 v20 v21 v22 v23 v24 v25 v26 v27 v28 v29 v30 v31 v32 v33 v34 v35 v36 v37 v38 v39 v40 v41 v42:Value,a=⟨#[.pointer (some ⟨b,0,none⟩),u1,u2,u3,.pointer (some ⟨r,0,none⟩),.bool true,.int .i64 (k:Nat),u7,u8,u9,u10,u11,u12,u13,u14,u15,v16,v17,v18,v19,v20,v21,v22,v23,v24,v25,v26,v27,v28,v29,v30,v31,v32,v33,v34,v35,v36,v37,v38,v39,v40,v41,v42],[]⟩)∧∃w3,Below w.heap.size w w3∧w3.heap[r]?=some (.cells #[.slice none 0 0,.slice none 0 0,.string ⟨#[]⟩] 80 (0,0))∧w'=((w3.setCell ⟨r,0,none⟩ (.slice ta tn tc)).setCell ⟨r,1,none⟩ (.slice ra rn rc)).setCell ⟨r,2,none⟩ (.string sm)) (fun _ _ _=>False)) ⟨#[.pointer (some ⟨b,0,none⟩),u1,u2,u3,.pointer (some ⟨r,0,none⟩),u5,.int .i64 (k:Nat),u7,u8,u9,u10,u11,u12,u13,u14,u15,u16,u17,u18,u19,u20,u21,u22,u23,u24,u25,u26,u27,u28,u29,u30,u31,u32,u33,u34,u35,u36,u37,u38,u39,u40,u41,u42],[]⟩ w:=by
 unfold regC
 conv=>arg 2;whnf
 have HP:=hide cP;have HS:=hide cS;have hkz:(0:Int)≤(k:Int):=by omega
 have hklz:(k:Int)<(n:Int):=by omega
 have HW0:=hide (drewB w);have HRB:=hide hrb;have hne3:=hne1.symm;have hne4:=hne2.symm;clear cP cS hrb
 go_region_held3 (fun w'=>w'.cell? ⟨b,0,none⟩=some (.slice (some ⟨be,offe,none⟩) n cv)∧w'.cell? ⟨be,offe+k*3+1,none⟩=some (.slice ta tn tc)∧w'.cell? ⟨be,offe+k*3+2,none⟩=some (.slice ra rn rc)) (go_keep) (first
  | (go_at_call 50;refine (HP.out _ HW0.out).mono ?_;rintro e w1 ⟨rfl,hb1⟩;have HW1:=hide (HW0.out.trans (hb1.mono HW0.out.size));have g0:=cellB HW1.out c8;have g1:=cellB HW1.out e81;have g2:=cellB HW1.out e82;clear hb1)
  | (go_at_call 52;refine (HS.out _).mono ?_;rintro e w2 ⟨rfl,hb2⟩;have HW2:Hid (Below w.heap.size w w2):=hide (by first | exact undrewB HW1.out hb2 | exact HW1.out.trans (hb2.mono HW1.out.size));have g3:=cellB HW2.out c8;have g4:=cellB HW2.out e81;have g5:=cellB HW2.out e82;have k2:=(HW2.out.block r (lt_of_block HRB.out)).trans HRB.out;have k20:w2.cell? ⟨r,0,none⟩=some (.slice none 0 0):=(by simp[World.cell?,k2]);have k21:w2.cell? ⟨r,1,none⟩=some (.slice none 0 0):=(by simp[World.cell?,k2]);have k22:w2.cell? ⟨r,2,none⟩=some (.string ⟨#[]⟩):=(by simp[World.cell?,k2]);have f20:w2.frozen? ⟨r,0,none⟩=false:=(by simp[World.frozen?,k2]);have f21:w2.frozen? ⟨r,1,none⟩=false:=(by simp[World.frozen?,k2]);have f22:w2.frozen? ⟨r,2,none⟩=false:=(by simp[World.frozen?,k2]);have HK2:=hide k2;clear hb2 k2))
 exact ⟨⟨_,_,_,_,_,_,_,_,_,_,_,_,_,_,_,_,_,_,_,_,_,_,_,_,_,_,_,rfl⟩,w2,HW2.out,HK2.out,rfl⟩
def nodesR (S:List Ent) (p:ByteArray):List Nd:=match findS S p with
 | some E=>E.nodes
 | none=>[]
def refsR (S:List Ent) (p:ByteArray):List ByteArray:=match findS S p with
 | some E=>E.refs
 | none=>[]
def sumB (ns:List Nd):ByteArray:=⟨(le (Sm.fnv (packB ns).data.toList) 8).toArray⟩
def sumR (S:List Ent) (p:ByteArray):ByteArray:=match findS S p with
 | some E=>sumB E.nodes
 | none=>⟨#[]⟩
theorem rGet_any (b:Nat) (S:List Ent) (p:ByteArray) (w:World) (h:RSt w b S) (hG:GoodS S) (hpk:∀e∈S,(packB e.nodes).size≤50000000) :
  Calls Tryz.prog 43 #[.pointer (some ⟨b,0,none⟩),.string p] w fun e w'=>∃vt vr,e=.returned (.tuple #[.agg #[vt,vr,.string (sumR S p)],.bool (findS S p).isSome])∧SliceN w' vt (nodesR S p)∧SliceS w' vr (refsR S p)∧Below w.heap.size w w':=by
 have hb0:Below w.heap.size w (w.alloc (.cells #[.slice none 0 0,.slice none 0 0,.string ⟨#[]⟩] 80)):=(Below.refl _ w).alloc (Nat.le_refl _) _;have K0:=hide (block_new w (.cells #[.slice none 0 0,.slice none 0 0,.string ⟨#[]⟩] 80));have H:=hide (h.below hb0);have HG:=hide hG;have HB0:=hide hb0;obtain ⟨v,l,hS1,hS2,hS3,hS4⟩:=h.at_;obtain ⟨av,cv,rfl,hcv,hcE⟩:=hS2;have hl10:l.length≤10:=by have:=hS3.length;have:=hG.few;omega
 have HS2:Hid (SliceE w (.slice av l.length cv) l):=hide ⟨av,cv,rfl,hcv,hcE⟩;have HS3:=hide hS3;have c0:(w.alloc (.cells #[.slice none 0 0,.slice none 0 0,.string ⟨#[]⟩] 80)).cell? ⟨b,0,none⟩=some (.slice av l.length cv):=cellB hb0 (by simp[World.cell?,hS1]);have cA:=hide (at_any (.slice av l.length cv) l p _ (HS2.out.below hb0) (by omega));have hblt:=lt_of_block hS1;clear h hb0 hS1 hS3 hS4 hG;unfold nodesR refsR sumR;rcases HS3.out.find p with ⟨hf1,hf2⟩ | ⟨k,hk1,hk2,hf1,hf2⟩
 ·rw[hf1];rw[hf2]at cA;clear hcE hf1 hf2;go_enter Tryz.func43,Tryz.ntmps43
  go_wp2_with fail
  refine cA.out.mono ?_;rintro e w1 ⟨rfl,hb1⟩;have HB1:=hide (HB0.out.trans (hb1.mono HB0.out.size));have k1:=(hb1.block w.heap.size (lt_of_block K0.out)).trans K0.out;have k10:w1.cell? ⟨w.heap.size,0,none⟩=some (.slice none 0 0):=by simp[World.cell?,k1]
  have k11:w1.cell? ⟨w.heap.size,1,none⟩=some (.slice none 0 0):=by simp[World.cell?,k1]
  have k12:w1.cell? ⟨w.heap.size,2,none⟩=some (.string ⟨#[]⟩):=by simp[World.cell?,k1]
  have f10:w1.frozen? ⟨w.heap.size,0,none⟩=false:=by simp[World.frozen?,k1]
  have f11:w1.frozen? ⟨w.heap.size,1,none⟩=false:=by simp[World.frozen?,k1]
  have f12:w1.frozen? ⟨w.heap.size,2,none⟩=false:=by simp[World.frozen?,k1]
  have K1:=hide k1;clear hb1 cA k1 c0;go_wp2;refine bodyPost_ret (results_cell_two rfl _ _ w.heap.size 80 _ (0,0) _ rfl (row3 K1.out) Tryz.underlying80 rfl (by kernel_rfl)) rfl ?_;exact ⟨_,_,rfl,⟨none,0,rfl,by simp,by simp[maxLen],fun _=>rfl,fun h=>by simp at h⟩,⟨none,0,rfl,by simp,fun h=>by simp at h⟩,((HB1.out.setCell (Nat.le_refl _) _).setCell (Nat.le_refl _) _).setCell (Nat.le_refl _) _⟩
 ·rw[hf2];rw[hf1]at cA;obtain ⟨_,hy1,hy2⟩:=HS3.out.get k hk1 hk2;have HTS:=hide (HG.out.tree S[k] (List.getElem_mem _));have HPK:=hide (hpk S[k] (List.getElem_mem _));obtain ⟨be,offe,rfl,hbl,hE⟩:=hcE (by omega);obtain ⟨_,e1,e2⟩:=hE k hk1;have HY1:=hide hy1;have HY2:=hide hy2;have HC:Hid (w.cell? ⟨be,offe+k*3+1,none⟩=some l[k].tree∧w.cell? ⟨be,offe+k*3+2,none⟩=some l[k].refs):=hide ⟨e1,e2⟩;clear hcE hf1 hf2 hy1 hy2 hE e1 e2 hpk;generalize l[k]=y at *;obtain ⟨yp,ta,tn,tc,ra,rn,rc⟩:=y;unfold REn.tree REn.refs at *;simp only at HY1 HY2 HC;go_enter Tryz.func43,Tryz.ntmps43
  go_wp2_with fail
  refine cA.out.mono ?_;rintro e w1 ⟨rfl,hb1⟩;have HB1:=hide (HB0.out.trans (hb1.mono HB0.out.size));have c1:=cellB hb1 c0;have K1:=hide ((hb1.block w.heap.size (lt_of_block K0.out)).trans K0.out);have hkz:¬ (k:Int)<0:=by omega
  clear hb1 cA c0;go_wp2;refine wp_mono (reg43_4 b w.heap.size be offe l.length cv k ta ra tn tc rn rc (packB S[k].nodes) (sumB S[k].nodes) w1 (by omega) (by omega) hk1 c1 (cellB HB1.out HC.out.1) (cellB HB1.out HC.out.2) K1.out (fun V hV=>refPack_tree _ _ V ((HY1.out.below HB1.out).below hV) HTS.out) (fun V=>Sm.ref_any _ V (by have:=HPK.out;unfold maxLen;omega)) _ _ _ _ _ _ _ _ _ _ _ _ _ _ _ _ _ _ _ _ _ _ _ _ _ _ _ _ _ _ _ _ _ _ _ _ _ _ _ _) (reg_then ?_);rintro a w' ⟨⟨v16,v17,v18,v19,v20,v21,v22,v23,v24,v25,v26,v27,v28,v29,v30,v31,v32,v33,v34,v35,v36,v37,v38,v39,v40,v41,v42,rfl⟩,w3,hb3,hk3,rfl⟩;have HB3:=hide (HB1.out.trans (hb3.mono HB1.out.size));have HK3:=hide hk3;clear hb3 hk3 c1;go_wp2;refine bodyPost_ret (results_cell_two rfl _ _ w.heap.size 80 _ (0,0) _ rfl (row3 HK3.out) Tryz.underlying80 rfl (by kernel_rfl)) rfl ?_;refine ⟨_,_,rfl,?_,?_,((HB3.out.setCell (Nat.le_refl _) _).setCell (Nat.le_refl _) _).setCell (Nat.le_refl _) _⟩
  ·exact HY1.out.below (((HB3.out.setCell (Nat.le_refl _) _).setCell (Nat.le_refl _) _).setCell (Nat.le_refl _) _)
  ·exact HY2.out.below (((HB3.out.setCell (Nat.le_refl _) _).setCell (Nat.le_refl _) _).setCell (Nat.le_refl _) _)
theorem reg28_12 (b g be offe n cv m ca k i:Nat) (z:ByteArray) (ra:Option Addr) (rn rc:Nat) (w:World) (hkm:k<m) (hin:i<n) (c8:w.cell? ⟨b,0,none⟩=some (.slice (some ⟨be,offe,none⟩) n cv)) (ck:w.cell? ⟨g,k,none⟩=some (.string z)) (e82:w.cell? ⟨be,offe+i*3+2,none⟩=some (.slice ra rn rc))
  (cA:∀V:World,Below w.heap.size w V→Calls Tryz.prog 39 #[.slice (some ⟨be,offe,none⟩) n cv,.string z] V fun e w'=>e=.returned (.int .i64 (i:Nat))∧Below V.heap.size V w') (u1 u2 u3 u4 u5 u7 u8 u10 u11 u12 u13 u14 u15 u16 u17 u18 u19 u20 u21 u22 u23 u24 u25 u26 u27 u28 u29 u30 u31 u32 u33 u34 u35 u36 u37 u38 u39 u40 u41 u42 u43 u44 u45 u46 u47 u48 u49 u50 u51 u52 u53 u54 u55 u56 u57 u58 u59 u60 u61 u62 u63 u64 u65 u66 u67 u68 u69 u70 u71 u72 u73 u74 u75 u76 u77 u78 u79 u80 u81 u82 u83 u84 u85 u86 u87 u88 u89 u90 u91 u92 u93 u94 u95 u96 u97 u98 u99 u100 u101 u102 u103 u104 u105 u106 u107 u108 u109 u110 u111 u112 u113 u114 u115 u116 u117 u118 u119 u120 u121:Value) :
  Code.wp Tryz.prog (regC Tryz.f28 12) (Exit.then (fun a w'=>(∃v43 v44 v45 v46 v47 v48 v49 v50 v51 v52 v53 v54 v55 v56 v57:Value,a=⟨#[.pointer (some ⟨b,0,none⟩),u1,u2,u3,u4,u5,.slice (some ⟨g,0,none⟩) m ca,u7,u8,.int .i64 (k:Nat),u10,u11,u12,u13,u14,u15,u16,u17,u18,u19,u20,u21,u22,u23,u24,u25,u26,u27,u28,u29,u30,u31,u32,u33,u34,u35,u36,u37,u38,u39,u40,u41,u42,v43,v44,v45,v46,v47,v48,v49,v50,v51,v52,v53,v54,v55,v56,v57,.slice ra rn rc,.int .i64 (rn:Nat),.int .i64 0,u61,u62,u63,u64,u65,u66,u67,u68,u69,u70,u71,u72,u73,u74,u75,u76,u77,u78,u79,u80,u81,u82,u83,u84,u85,u86,u87,u88,u89,u90,u91,u92,u93,u94,u95,u96,u97,u98,u99,u100,u101,u102,u103,u104,u105,u106,u107,u108,u109,u110,u111,u112,u113,u114,u115,u116,u117,u118,u119,u120,u121],[]⟩)∧Below w.heap.size w w') (fun _ _ _=>False)) ⟨#[.pointer (some ⟨b,0,none⟩),u1,u2,u3,u4,u5,.slice (some ⟨g,0,none⟩) m ca,u7,u8,.int .i64 (k:Nat),u10,u11,u12,u13,u14,u15,u16,u17,u18,u19,u20,u21,u22,u23,u24,u25,u26,u27,u28,u29,u30,u31,u32,u33,u34,u35,u36,u37,u38,u39,u40,u41,u42,u43,u44,u45,u46,u47,u48,u49,u50,u51,u52,u53,u54,u55,u56,u57,u58,u59,u60,u61,u62,u63,u64,u65,u66,u67,u68,u69,u70,u71,u72,u73,u74,u75,u76,u77,u78,u79,u80,u81,u82,u83,u84,u85,u86,u87,u88,u89,u90,u91,u92,u93,u94,u95,u96,u97,u98,u99,u100,u101,u102,u103,u104,u105,u106,u107,u108,u109,u110,u111,u112,u113,u114,u115,u116,u117,u118,u119,u120,u121],[]⟩ w:=by
 unfold regC
 conv=>arg 2;whnf
 have HA:=hide cA;have hkz:(0:Int)≤(k:Int):=by omega
 have hklz:(k:Int)<(m:Int):=by omega
 have hiz:(0:Int)≤(i:Int):=by omega
 have hilz:(i:Int)<(n:Int):=by omega
 have HW0:=hide (drewB w);clear cA
 go_region_held3 (fun w'=>w'.cell? ⟨b,0,none⟩=some (.slice (some ⟨be,offe,none⟩) n cv)∧w'.cell? ⟨g,k,none⟩=some (.string z)∧w'.cell? ⟨be,offe+i*3+2,none⟩=some (.slice ra rn rc)) (go_keep) (first
  | (go_at_call 39;refine (HA.out _ HW0.out).mono ?_;rintro e w1 ⟨rfl,hb1⟩;have HW1:=hide (HW0.out.trans (hb1.mono HW0.out.size));have g0:=cellB HW1.out c8;have g1:=cellB HW1.out ck;have g2:=cellB HW1.out e82;clear hb1))
 exact ⟨⟨_,_,_,_,_,_,_,_,_,_,_,_,_,_,_,rfl⟩,HW1.out⟩
end Go.Proofs.YticfcjmlphhpgaaGreatDoor
