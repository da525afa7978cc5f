import Derived.Test.YticfcjmlphhpgaaGreatDoorA11
import Derived.Test.YticfcjmlphhpgaaGreatDoorA13
import Derived.Test.YticfcjmlphhpgaaGreatDoorA30
set_option maxRecDepth 20000
set_option maxHeartbeats 8000000
namespace Go.Proofs.YticfcjmlphhpgaaGreatDoor
open Go.RowKit Go.Maps
def FW (A:Nat→Prop) (wb:Nat) (vss vbs vls vts:Value) (k:Nat):Prop:=¬ A k∧k≠wb∧vss.ownBlock≠some k∧vbs.ownBlock≠some k∧vls.ownBlock≠some k∧vts.ownBlock≠some k
structure PrOk (F:Nat→Prop) (B:Nat) (w:World) (p:Pr):Prop where
 n:NStF F w p.q p.b p.S
 r:RStF F w p.r p.S
 ok:OkE p.S
 bb:B≤p.b
 br:B≤p.r
structure WR (A:Nat→Prop) (B wb:Nat) (prs:List Pr) (bs:List ByteArray) (ls ts:List (Value × Nat)) (vss vbs vls vts:Value) (w:World):Prop where
 wbk:WBk w wb vss vbs vls vts false
 hB:B≤wb
 rss:w.ownsRow B 50 2 vss prs.length (flatP prs)
 rbs:w.ownsRow B 9 1 vbs bs.length (bs.map Value.string)
 rls:w.ownsRow B 26 1 vls ls.length (ls.map (·.1))
 rts:w.ownsRow B 25 1 vts ts.length (ts.map (·.1))
 lrow:∀k (h:k<ls.length),w.ownsRow B 9 1 ls[k].1 ls[k].2 (List.replicate ls[k].2 (.string (markB k)))
 trow:∀k (h:k<ts.length),w.ownsRow B 42 3 ts[k].1 ts[k].2 (flat3 (List.replicate ts[k].2 (markN k)))
 lA:∀x∈ls,∀g,x.1.ownBlock=some g→¬ A g∧vbs.ownBlock≠some g
 tA:∀x∈ts,∀g,x.1.ownBlock=some g→¬ A g
 vA:∀g,(vss.ownBlock=some g∨vbs.ownBlock=some g∨vls.ownBlock=some g∨vts.ownBlock=some g∨g=wb)→¬ A g
 pr:∀p∈prs,PrOk (FW A wb vss vbs vls vts) B w p
 dis:prs.Pairwise (fun p p'=>p.b≠p'.b∧p.r≠p'.r)
section
variable {A:Nat→Prop} {B wb:Nat} {prs:List Pr} {bs:List ByteArray} {ls ts:List (Value × Nat)} {vss vbs vls vts:Value} {w:World}
theorem PrOk.below {F:Nat→Prop} {w':World} {p:Pr} (h:PrOk F B w p) (hb:Below w.heap.size w w'):PrOk F B w' p:=⟨h.n.below hb,h.r.below hb,h.ok,h.bb,h.br⟩
theorem WR.below {w':World} (h:WR A B wb prs bs ls ts vss vbs vls vts w) (hb:Below w.heap.size w w'):WR A B wb prs bs ls ts vss vbs vls vts w':=
 ⟨(hb.block _ (lt_of_block h.wbk)).trans h.wbk,h.hB,own_below h.rss hb,own_below h.rbs hb,own_below h.rls hb,own_below h.rts hb,fun k hk=>own_below (h.lrow k hk) hb,fun k hk=>own_below (h.trow k hk) hb,h.lA,h.tA,h.vA,fun p hp=>(h.pr p hp).below hb,h.dis⟩
theorem PrOk.mono {F F':Nat→Prop} {p:Pr} (h:PrOk F B w p) (hF:∀k,k<w.heap.size→F k→F' k):PrOk F' B w p:=⟨⟨h.n.1,h.n.2.mono' hF⟩,h.r.mono' hF,h.ok,h.bb,h.br⟩
theorem WR.avoid {A':Nat→Prop} (h:WR A B wb prs bs ls ts vss vbs vls vts w) (hA:∀k,A' k→w.heap.size≤k):WR A' B wb prs bs ls ts vss vbs vls vts w:=by
 have hno:∀g,g<w.heap.size→¬ A' g:=fun g hg ha=>by have:=hA g ha;omega
 refine ⟨h.wbk,h.hB,h.rss,h.rbs,h.rls,h.rts,h.lrow,h.trow,fun x hx g hg=>?_,fun x hx g hg=>?_,fun g hg=>?_,fun p hp=>(h.pr p hp).mono fun k hk hf=>⟨hno k hk,hf.2⟩,h.dis⟩
 ·obtain ⟨k,hk,rfl⟩:=List.getElem_of_mem hx;exact ⟨hno g ((h.lrow k hk).lt g hg).2,(h.lA _ hx g hg).2⟩
 ·obtain ⟨k,hk,rfl⟩:=List.getElem_of_mem hx;exact hno g ((h.trow k hk).lt g hg).2
 ·rcases hg with hg | hg | hg | hg | rfl
  ·exact hno g (h.rss.lt g hg).2
  ·exact hno g (h.rbs.lt g hg).2
  ·exact hno g (h.rls.lt g hg).2
  ·exact hno g (h.rts.lt g hg).2
  ·exact hno g (lt_of_block h.wbk)
theorem KO.keepT {X:Nat→Prop} {w':World} (h:KO X w w') {t:TypeId} (hX:∀k cs fz,X k→w.heap[k]?≠some (.cells cs t fz)):KeepT t w w':=fun k cs fz hk=>h.blk k (lt_of_block hk) (fun hx=>hX k cs fz hx hk)
theorem own_not {e t:TypeId} {s n:Nat} {v:Value} {xs:List Value} (h:w.ownsRow B e s v n xs) (hne:e≠t) {k:Nat} (hk:v.ownBlock=some k) (cs:Array Value) (fz:Nat × Nat):w.heap[k]?≠some (.cells cs t fz):=fun hc=>by
 obtain ⟨cur,h1⟩:=own_block h hk;exact hne (cells_type h1 hc)
theorem own_ko {X:Nat→Prop} {w':World} {e:TypeId} {s n:Nat} {v:Value} {xs:List Value} (h:w.ownsRow B e s v n xs) (hk:KO X w w') (hx:∀g,v.ownBlock=some g→¬ X g):w'.ownsRow B e s v n xs:=own_kept h fun g hg=>hk.blk g (h.lt g hg).2 (hx g hg)
theorem PrOk.ko {F F' X:Nat→Prop} {w':World} {p:Pr} (h:PrOk F B w p) (hk:KO X w w') (hX:∀k,X k→¬ F k) (ht:∀k,X k→(∀cs fz,w.heap[k]?≠some (.cells cs 71 fz))∧(∀cs fz,w.heap[k]?≠some (.cells cs 48 fz))∧∃cs t fz,w.heap[k]?=some (.cells cs t fz)) (hF:∀k,k<w.heap.size→F k→F' k):PrOk F' B w' p:=by
 have hkf:KF (fun k=>F k∧k<w.heap.size) w w':=⟨hk.size,fun k off s hf _=>hk.blk k hf.2 (fun hx=>hX k hx hf.1)⟩;have hq:w'.heap[p.q]?=w.heap[p.q]?:=hk.blk _ (lt_of_block h.n.1) (fun hx=>(ht _ hx).1 _ _ h.n.1);have hb:w'.heap[p.b]?=w.heap[p.b]?:=by
  obtain ⟨L,⟨es,clock,h1,_⟩,_⟩:=h.n.2.st;exact hk.blk _ (lt_of_block h1) (fun hx=>by
   obtain ⟨_,_,cs,t,fz,h2⟩:=ht _ hx;rw[h1]at h2;cases h2)
 have hr:w'.heap[p.r]?=w.heap[p.r]?:=by
  obtain ⟨v,l,h1,_⟩:=h.r;exact hk.blk _ (lt_of_block h1) (fun hx=>(ht _ hx).2.1 _ _ h1)
 have g:=PrOk.mono h hF;have hkf':KF (fun k=>F' k∧k<w.heap.size) w w'→True:=fun _=>trivial
 refine ⟨?_,?_,h.ok,h.bb,h.br⟩
 ·have:=h.n.kf hkf hq hb;obtain ⟨h0,L,h1,h2,h3⟩:=this;obtain ⟨_,L',h1',h2',h3'⟩:=h.n;refine ⟨h0,L',h1'.blk hb,h2'.kf hkf h3',fun x hx=>(h3' x hx).mono fun k hk'=>⟨hF k hk'.2 hk'.1,Nat.lt_of_lt_of_le hk'.2 hk.size⟩⟩
 ·obtain ⟨v,l,h1,h2,h3,h4,h5,h6⟩:=h.r;exact ⟨v,l,hr.trans h1,h2.kf h5 hkf,h3.kf hkf h6,h4,h5.mono fun k hk'=>⟨hF k hk'.2 hk'.1,Nat.lt_of_lt_of_le hk'.2 hk.size⟩,fun y hy=>(h6 y hy).mono fun k hk'=>⟨hF k hk'.2 hk'.1,Nat.lt_of_lt_of_le hk'.2 hk.size⟩⟩
theorem WR.mine {A':Nat→Prop} {w':World} {v v' vls':Value} {n Bv:Nat} {xs:List Value} (h:WR A B wb prs bs ls ts vss vbs vls vts w) (hv:w.ownsRow Bv 9 1 v n xs) (hBv:B≤Bv) (hvA:∀g,v.ownBlock=some g→A g) (hA:∀k,A' k→A k) (hA':∀g,v'.ownBlock=some g→¬ A' g) (hAs:∀k,A' k→k<w.heap.size)
  (hwb:WBk w' wb vss vbs vls' vts false) (hls:w'.ownsRow B 26 1 vls' (ls.length+1) (ls.map (·.1)++[v'])) (hv':w'.ownsRow Bv 9 1 v' (n+2) (List.replicate (n+2) (.string (markB ls.length)))) (hk:KO (fun k=>k=wb∨vls.ownBlock=some k∨v.ownBlock=some k) w w') (ho1:OldNew w vls vls') (ho2:OldNew w v v') :
  WR A' B wb prs bs (ls++[(v',n+2)]) ts vss vbs vls' vts w':=by
 have hX:∀t,t≠36→t≠26→t≠9→KeepT t w w':=fun t h1 h2 h3=>hk.keepT fun k cs fz hx=>by
  rcases hx with rfl | hx | hx
  ·exact fun hc=>h1 (cells_type hc h.wbk)
  ·exact own_not h.rls (Ne.symm h2) hx cs fz
  ·exact own_not hv (Ne.symm h3) hx cs fz
 have h9:∀{Bx s m:Nat} {u:Value} {ys:List Value},w.ownsRow Bx 9 s u m ys→(∀g,u.ownBlock=some g→¬ A g)→w'.ownsRow Bx 9 s u m ys:=fun hu hA2=>own_ko hu hk fun g hg hx=>by
  rcases hx with rfl | hx | hx
  ·exact own_not hu (by decide) hg _ _ h.wbk
  ·obtain ⟨cur,hc⟩:=own_block h.rls hx;exact own_not hu (by decide) hg _ _ hc
  ·exact hA2 g hg (hvA g hx)
 have hvl:∀g,vls'.ownBlock=some g→g<w.heap.size→vls.ownBlock=some g:=fun g hg hlt=>by
  rcases ho1 g hg with h1 | h1
  ·exact h1
  ·omega
 refine ⟨hwb,h.hB,own_keepT h.rss (hX 50 (by decide) (by decide) (by decide)),h9 h.rbs (fun g hg=>h.vA g (.inr (.inl hg))),?_,own_keepT h.rts (hX 25 (by decide) (by decide) (by decide)),fun k hkl=>?_,fun k hkl=>own_keepT (h.trow k hkl) (hX 42 (by decide) (by decide) (by decide)),fun x hx g hg=>?_,fun x hx g hg ha=>h.tA x hx g hg (hA g ha),fun g hg ha=>?_,fun p hp=>?_,h.dis⟩
 ·rw[List.length_append,List.length_singleton,List.map_append,List.map_singleton];exact hls
 ·by_cases e:k<ls.length
  ·rw[List.getElem_append_left e];exact h9 (h.lrow k e) (fun g hg=>(h.lA _ (List.getElem_mem e) g hg).1)
  ·have e2:k=ls.length:=by rw[List.length_append,List.length_singleton]at hkl;omega
   subst e2;rw[List.getElem_append_right (Nat.le_refl _)];simp only[Nat.sub_self,List.getElem_cons_zero];exact own_base hv' hBv
 ·rcases List.mem_append.1 hx with hx | hx
  ·exact ⟨fun ha=>(h.lA x hx g hg).1 (hA g ha),(h.lA x hx g hg).2⟩
  ·rw[List.mem_singleton]at hx;subst hx;refine ⟨hA' g hg,fun hb=>?_⟩;rcases ho2 g hg with h1 | h1
   ·exact h.vA g (.inr (.inl hb)) (hvA g h1)
   ·have:=(h.rbs.lt g hb).2;omega
 ·rcases hg with hg | hg | hg | hg | hg
  ·exact h.vA g (.inl hg) (hA g ha)
  ·exact h.vA g (.inr (.inl hg)) (hA g ha)
  ·exact h.vA g (.inr (.inr (.inl (hvl g hg (hAs g ha))))) (hA g ha)
  ·exact h.vA g (.inr (.inr (.inr (.inl hg)))) (hA g ha)
  ·exact h.vA g (.inr (.inr (.inr (.inr hg)))) (hA g ha)
 ·refine (h.pr p hp).ko hk (fun k hx hf=>?_) (fun k hx=>?_) (fun k hlt hf=>⟨fun ha=>hf.1 (hA k ha),hf.2.1,hf.2.2.1,hf.2.2.2.1,fun he=>hf.2.2.2.2.1 (hvl k he hlt),hf.2.2.2.2.2⟩)
  ·rcases hx with rfl | hx | hx
   ·exact hf.2.1 rfl
   ·exact hf.2.2.2.2.1 hx
   ·exact hf.1 (hvA k hx)
  ·rcases hx with rfl | hx | hx
   ·exact ⟨fun cs fz hc=>absurd (cells_type hc h.wbk) (by decide),fun cs fz hc=>absurd (cells_type hc h.wbk) (by decide),_,_,_,h.wbk⟩
   ·obtain ⟨cur,hc⟩:=own_block h.rls hx;exact ⟨own_not h.rls (by decide) hx,own_not h.rls (by decide) hx,_,_,_,hc⟩
   ·obtain ⟨cur,hc⟩:=own_block hv hx;exact ⟨own_not hv (by decide) hx,own_not hv (by decide) hx,_,_,_,hc⟩
theorem WR.nodes {A':Nat→Prop} {w':World} {v v' vts':Value} {n Bv:Nat} {xs:List Value} (h:WR A B wb prs bs ls ts vss vbs vls vts w) (hv:w.ownsRow Bv 42 3 v n xs) (hBv:B≤Bv) (hvA:∀g,v.ownBlock=some g→A g) (hA:∀k,A' k→A k) (hA':∀g,v'.ownBlock=some g→¬ A' g) (hAs:∀k,A' k→k<w.heap.size)
  (hwb:WBk w' wb vss vbs vls vts' false) (hts:w'.ownsRow B 25 1 vts' (ts.length+1) (ts.map (·.1)++[v'])) (hv':w'.ownsRow Bv 42 3 v' (n+2) (flat3 (List.replicate (n+2) (markN ts.length)))) (hk:KO (fun k=>k=wb∨vts.ownBlock=some k∨v.ownBlock=some k) w w') (ho1:OldNew w vts vts') :
  WR A' B wb prs bs ls (ts++[(v',n+2)]) vss vbs vls vts' w':=by
 have hX:∀t,t≠36→t≠25→t≠42→KeepT t w w':=fun t h1 h2 h3=>hk.keepT fun k cs fz hx=>by
  rcases hx with rfl | hx | hx
  ·exact fun hc=>h1 (cells_type hc h.wbk)
  ·exact own_not h.rts (Ne.symm h2) hx cs fz
  ·exact own_not hv (Ne.symm h3) hx cs fz
 have h42:∀{Bx s m:Nat} {u:Value} {ys:List Value},w.ownsRow Bx 42 s u m ys→(∀g,u.ownBlock=some g→¬ A g)→w'.ownsRow Bx 42 s u m ys:=fun hu hA2=>own_ko hu hk fun g hg hx=>by
  rcases hx with rfl | hx | hx
  ·exact own_not hu (by decide) hg _ _ h.wbk
  ·obtain ⟨cur,hc⟩:=own_block h.rts hx;exact own_not hu (by decide) hg _ _ hc
  ·exact hA2 g hg (hvA g hx)
 have hvl:∀g,vts'.ownBlock=some g→g<w.heap.size→vts.ownBlock=some g:=fun g hg hlt=>by
  rcases ho1 g hg with h1 | h1
  ·exact h1
  ·omega
 refine ⟨hwb,h.hB,own_keepT h.rss (hX 50 (by decide) (by decide) (by decide)),own_keepT h.rbs (hX 9 (by decide) (by decide) (by decide)),own_keepT h.rls (hX 26 (by decide) (by decide) (by decide)),?_,fun k hkl=>own_keepT (h.lrow k hkl) (hX 9 (by decide) (by decide) (by decide)),fun k hkl=>?_,fun x hx g hg=>⟨fun ha=>(h.lA x hx g hg).1 (hA g ha),(h.lA x hx g hg).2⟩,fun x hx g hg=>?_,fun g hg ha=>?_,fun p hp=>?_,h.dis⟩
 ·rw[List.length_append,List.length_singleton,List.map_append,List.map_singleton];exact hts
 ·by_cases e:k<ts.length
  ·rw[List.getElem_append_left e];exact h42 (h.trow k e) (fun g hg=>h.tA _ (List.getElem_mem e) g hg)
  ·have e2:k=ts.length:=by rw[List.length_append,List.length_singleton]at hkl;omega
   subst e2;rw[List.getElem_append_right (Nat.le_refl _)];simp only[Nat.sub_self,List.getElem_cons_zero];exact own_base hv' hBv
 ·rcases List.mem_append.1 hx with hx | hx
  ·exact fun ha=>h.tA x hx g hg (hA g ha)
  ·rw[List.mem_singleton]at hx;subst hx;exact hA' g hg
 ·rcases hg with hg | hg | hg | hg | hg
  ·exact h.vA g (.inl hg) (hA g ha)
  ·exact h.vA g (.inr (.inl hg)) (hA g ha)
  ·exact h.vA g (.inr (.inr (.inl hg))) (hA g ha)
  ·exact h.vA g (.inr (.inr (.inr (.inl (hvl g hg (hAs g ha)))))) (hA g ha)
  ·exact h.vA g (.inr (.inr (.inr (.inr hg)))) (hA g ha)
 ·refine (h.pr p hp).ko hk (fun k hx hf=>?_) (fun k hx=>?_) (fun k hlt hf=>⟨fun ha=>hf.1 (hA k ha),hf.2.1,hf.2.2.1,hf.2.2.2.1,hf.2.2.2.2.1,fun he=>hf.2.2.2.2.2 (hvl k he hlt)⟩)
  ·rcases hx with rfl | hx | hx
   ·exact hf.2.1 rfl
   ·exact hf.2.2.2.2.2 hx
   ·exact hf.1 (hvA k hx)
  ·rcases hx with rfl | hx | hx
   ·exact ⟨fun cs fz hc=>absurd (cells_type hc h.wbk) (by decide),fun cs fz hc=>absurd (cells_type hc h.wbk) (by decide),_,_,_,h.wbk⟩
   ·obtain ⟨cur,hc⟩:=own_block h.rts hx;exact ⟨own_not h.rts (by decide) hx,own_not h.rts (by decide) hx,_,_,_,hc⟩
   ·obtain ⟨cur,hc⟩:=own_block hv hx;exact ⟨own_not hv (by decide) hx,own_not hv (by decide) hx,_,_,_,hc⟩
end
theorem KF.map {P:Nat→Prop} {w w':World} {b:Nat} {es:Array MapEntry} {c:Nat} (hb:w.heap[b]?=some (.map es c)) (hk:KBz b w w'):KF P w w':=⟨hk.size,fun k off s _ hc=>hk.blk k (World.block_lt_of_cell? _ _ hc) (fun e=>by
 subst e;simp only[World.cell?,hb]at hc;cases hc)⟩
theorem KF.store {P:Nat→Prop} {w w':World} {r n c:Nat} {a:Option Addr} {fz:Nat × Nat} (hr:w.heap[r]?=some (.cells #[.slice a n c] 48 fz)) (hk:KBz r w w'):KF P w w':=⟨hk.size,fun _ _ _ _ hc=>hk.blk _ (World.block_lt_of_cell? _ _ hc) (Ne.symm (far_cell hr hc))⟩
theorem KBz.keepM {w w':World} {b:Nat} {es:Array MapEntry} {c:Nat} (hb:w.heap[b]?=some (.map es c)) (hk:KBz b w w') (t:TypeId):KeepT t w w':=fun k _ _ hc=>hk.blk k (lt_of_block hc) (fun e=>by
 subst e;rw[hb]at hc;cases hc)
theorem KBz.keepS {w w':World} {r:Nat} {cs:Array Value} {fz:Nat × Nat} (hr:w.heap[r]?=some (.cells cs 48 fz)) (hk:KBz r w w') {t:TypeId} (ht:t≠48):KeepT t w w':=fun k _ _ hc=>hk.blk k (lt_of_block hc) (fun e=>by
 subst e;exact ht (cells_type hc hr))
theorem PStF.obj {F:Nat→Prop} {w:World} {b:Nat} {S:List Ent} (h:PStF F w b S):∃es c,w.heap[b]?=some (.map es c):=by
 obtain ⟨L,⟨es,clock,h1,_⟩,_⟩:=h;exact ⟨es,clock,h1⟩
theorem RStF.obj {F:Nat→Prop} {w:World} {r:Nat} {S:List Ent} (h:RStF F w r S):∃a n c,w.heap[r]?=some (.cells #[.slice a n c] 48 (0,0)):=by
 obtain ⟨v,l,h1,⟨a,c,rfl,_⟩,_⟩:=h;exact ⟨a,_,c,h1⟩
section
variable {A:Nat→Prop} {B wb:Nat} {prs:List Pr} {bs:List ByteArray} {ls ts:List (Value × Nat)} {vss vbs vls vts:Value} {w:World}
theorem PrOk.other {F:Nat→Prop} {w3:World} {p:Pr} (h:PrOk F B w p) (hW:Wrote p.b w w3):RStF F w3 p.r p.S:=by
 obtain ⟨es,c,hb⟩:=h.n.2.obj;obtain ⟨a,n,c2,hr⟩:=h.r.obj;exact h.r.kf (KF.map hb hW.1) (KBz.keepM hb hW.1 48 _ _ _ hr)
theorem WR.ins {w3 w4:World} (h:WR A B wb prs bs ls ts vss vbs vls vts w) (i:Nat) (hi:i<prs.length) (S':List Ent) (hok:OkE S') (hW3:Wrote prs[i].b w w3) (h3:NStF (FW A wb vss vbs vls vts) w3 prs[i].q prs[i].b S') (hW4:Wrote prs[i].r w3 w4) (h4:RStF (FW A wb vss vbs vls vts) w4 prs[i].r S') :
  WR A B wb (prs.set i ⟨prs[i].q,prs[i].b,prs[i].r,S'⟩) bs ls ts vss vbs vls vts w4:=by
 have hp:=h.pr prs[i] (List.getElem_mem _);obtain ⟨es,c,hb⟩:=hp.n.2.obj;have hr3:=(hp.other hW3).obj;obtain ⟨a,n,c2,hr⟩:=hr3;have kt:∀t,t≠48→KeepT t w w4:=fun t ht=>(KBz.keepM hb hW3.1 t).trans (KBz.keepS hr hW4.1 ht)
 have hdis:=List.pairwise_iff_getElem.1 h.dis;refine ⟨(kt 36 (by decide) _ _ _ h.wbk).trans h.wbk,h.hB,?_,own_keepT h.rbs (kt 9 (by decide)),own_keepT h.rls (kt 26 (by decide)),own_keepT h.rts (kt 25 (by decide)),fun k hk=>own_keepT (h.lrow k hk) (kt 9 (by decide)),fun k hk=>own_keepT (h.trow k hk) (kt 42 (by decide)),h.lA,h.tA,h.vA,fun p' hp'=>?_,?_⟩
 ·rw[List.length_set,flatP_set prs i hi S'];exact own_keepT h.rss (kt 50 (by decide))
 ·obtain ⟨j,hj,rfl⟩:=List.getElem_of_mem hp';rw[List.length_set]at hj
  by_cases e:i=j
  ·subst e;rw[List.getElem_set_self];refine ⟨?_,h4,hok,hp.bb,hp.br⟩;obtain ⟨es3,c3,hb3⟩:=h3.2.obj;exact h3.kf (KF.store hr hW4.1) (KBz.keepS hr hW4.1 (by decide) _ _ _ h3.1) (hW4.1.blk _ (lt_of_block hb3) (fun e=>by
    have e':prs[i].b=prs[i].r:=e;rw[e',hr]at hb3;cases hb3))
  ·rw[List.getElem_set_ne e];have hq:=h.pr prs[j] (List.getElem_mem _);have hne:prs[j].b≠prs[i].b∧prs[j].r≠prs[i].r:=by
    rcases Nat.lt_or_gt_of_ne e with h1 | h1
    ·have:=hdis i j hi hj h1;exact ⟨Ne.symm this.1,Ne.symm this.2⟩
    ·exact hdis j i hj hi h1
   obtain ⟨es',c',hb'⟩:=hq.n.2.obj;obtain ⟨a',n',c2',hr'⟩:=hq.r.obj;have n3:NStF (FW A wb vss vbs vls vts) w3 prs[j].q prs[j].b prs[j].S:=hq.n.kf (KF.map hb hW3.1) (KBz.keepM hb hW3.1 71 _ _ _ hq.n.1) (hW3.1.blk _ (lt_of_block hb') hne.1);have r3:RStF (FW A wb vss vbs vls vts) w3 prs[j].r prs[j].S:=hq.r.kf (KF.map hb hW3.1) (KBz.keepM hb hW3.1 48 _ _ _ hr');obtain ⟨es3,c3,hb3⟩:=n3.2.obj;obtain ⟨a3,n3',c23,hr3'⟩:=r3.obj;refine ⟨?_,r3.kf (KF.store hr hW4.1) (hW4.1.blk _ (lt_of_block hr3') hne.2),hq.ok,hq.bb,hq.br⟩;exact n3.kf (KF.store hr hW4.1) (KBz.keepS hr hW4.1 (by decide) _ _ _ n3.1) (hW4.1.blk _ (lt_of_block hb3) (fun e=>by
    have e':prs[j].b=prs[i].r:=e;rw[e',hr]at hb3;cases hb3))
 ·rw[List.pairwise_iff_getElem];intro j k hj hk hjk;rw[List.length_set]at hj hk;have:=hdis j k hj hk hjk;have hs:∀m (hm:m<prs.length) (hm':m<(prs.set i ⟨prs[i].q,prs[i].b,prs[i].r,S'⟩).length),(prs.set i ⟨prs[i].q,prs[i].b,prs[i].r,S'⟩)[m].b=prs[m].b∧(prs.set i ⟨prs[i].q,prs[i].b,prs[i].r,S'⟩)[m].r=prs[m].r:=fun m hm hm'=>by
   by_cases e:i=m
   ·subst e;rw[List.getElem_set_self];exact ⟨rfl,rfl⟩
   ·rw[List.getElem_set_ne e];exact ⟨rfl,rfl⟩
  rw[(hs j hj _).1,(hs j hj _).2,(hs k hk _).1,(hs k hk _).2];exact this
theorem WR.new {w1 w2:World} {vss':Value} {q b r:Nat} (h:WR (fun _=>False) B wb prs bs ls ts vss vbs vls vts w) (hb:Below w.heap.size w w1) (hq:NSt w1 q b []) (hbq:w.heap.size≤b) (hr:w1.heap[r]?=some (.cells #[.slice none 0 0] 48 (0,0))) (hbr:w.heap.size≤r)
  (hk:KO (fun k=>k=wb∨vss.ownBlock=some k) w1 w2) (hwb:WBk w2 wb vss' vbs vls vts false) (hss:w2.ownsRow B 50 2 vss' (prs.length+1) (flatP prs++[.pointer (some ⟨q,0,none⟩),.pointer (some ⟨r,0,none⟩)])) (ho:OldNew w1 vss vss') (hBw:B≤w.heap.size) :
  WR (fun _=>False) B wb (prs++[⟨q,b,r,[]⟩]) bs ls ts vss' vbs vls vts w2:=by
 have h1:=h.below hb;have hX:∀t,t≠36→t≠50→KeepT t w1 w2:=fun t ht1 ht2=>hk.keepT fun k cs fz hx=>by
  rcases hx with rfl | hx
  ·exact fun hc=>ht1 (cells_type hc h1.wbk)
  ·exact own_not h1.rss (Ne.symm ht2) hx cs fz
 have hvl:∀g,vss'.ownBlock=some g→g<w1.heap.size→vss.ownBlock=some g:=fun g hg hlt=>by
  rcases ho g hg with h1 | h1
  ·exact h1
  ·omega
 have hFF:∀k,k<w1.heap.size→FW (fun _=>False) wb vss vbs vls vts k→FW (fun _=>False) wb vss' vbs vls vts k:=fun k hlt hf=>⟨fun hF=>hF,hf.2.1,fun he=>hf.2.2.1 (hvl k he hlt),hf.2.2.2⟩
 have hXF:∀k,(k=wb∨vss.ownBlock=some k)→¬ FW (fun _=>False) wb vss vbs vls vts k:=fun k hx hf=>by
  rcases hx with hx | hx
  ·exact hf.2.1 hx
  ·exact hf.2.2.1 hx
 have hXT:∀k,(k=wb∨vss.ownBlock=some k)→(∀cs fz,w1.heap[k]?≠some (.cells cs 71 fz))∧(∀cs fz,w1.heap[k]?≠some (.cells cs 48 fz))∧∃cs t fz,w1.heap[k]?=some (.cells cs t fz):=fun k hx=>by
  rcases hx with rfl | hx
  ·exact ⟨fun cs fz hc=>absurd (cells_type hc h1.wbk) (by decide),fun cs fz hc=>absurd (cells_type hc h1.wbk) (by decide),_,_,_,h1.wbk⟩
  ·obtain ⟨cur,hc⟩:=own_block h1.rss hx;exact ⟨own_not h1.rss (by decide) hx,own_not h1.rss (by decide) hx,_,_,_,hc⟩
 have hnew:PrOk (FW (fun _=>False) wb vss vbs vls vts) B w1 ⟨q,b,r,[]⟩:=by
  obtain ⟨hq0,L,hL1,hL2⟩:=hq;refine ⟨⟨hq0,L,hL1,hL2,fun x hx=>?_⟩,⟨.slice none 0 0,[],hr,⟨none,0,rfl,Nat.le_refl _,fun h=>by simp at h⟩,trivial,fun _=>rfl,(fun ad n c e=>by cases e),(fun y hy=>by cases hy)⟩,OkE.nil,by show B≤b;omega,by show B≤r;omega⟩;cases L with
  | nil=>cases hx
  | cons y L=>exact hL2.elim
 refine ⟨hwb,h.hB,?_,own_keepT h1.rbs (hX 9 (by decide) (by decide)),own_keepT h1.rls (hX 26 (by decide) (by decide)),own_keepT h1.rts (hX 25 (by decide) (by decide)),fun k hk=>own_keepT (h1.lrow k hk) (hX 9 (by decide) (by decide)),fun k hk=>own_keepT (h1.trow k hk) (hX 42 (by decide) (by decide)),h.lA,h.tA,fun g _ hF=>hF,fun p hp=>?_,?_⟩
 ·rw[List.length_append,List.length_singleton,flatP_append];exact hss
 ·rcases List.mem_append.1 hp with hp | hp
  ·exact (h1.pr p hp).ko hk hXF hXT hFF
  ·rw[List.mem_singleton]at hp;subst hp;exact hnew.ko hk hXF hXT hFF
 ·rw[List.pairwise_append];refine ⟨h.dis,List.pairwise_singleton _ _,fun p hp p' hp'=>?_⟩;rw[List.mem_singleton]at hp';subst hp';have hpo:=h.pr p hp;have l1:=hpo.n.2.lt;have l2:=hpo.r.lt;exact ⟨by show p.b≠b;omega,by show p.r≠r;omega⟩
end
def errG (S:List Ent) (p:ByteArray):Int:=if (findS S p).isSome=true then 0 else 15
theorem narGet_any (q b:Nat) (S:List Ent) (p:ByteArray) (w:World) (h:NSt w q b S) (hO:OkS S) (hT:Lib.Utf8Tabs 0 1 w) (hs:p.size≤1000000000) :
  Calls Tryz.prog 42 #[.pointer (some ⟨q,0,none⟩),.string p] w fun e w'=>∃ta tc ra rc,e=.returned (.tuple #[.agg #[.slice ta (nodesR S p).length tc,.slice ra (refsR S p).length rc,.string (sumR S p)],.int .i64 (errG S p)])∧w'.ownsRow w.heap.size 42 3 (.slice ta (nodesR S p).length tc) (nodesR S p).length (flat3 (nodesR S p))∧w'.ownsRow w.heap.size 9 1 (.slice ra (refsR S p).length rc) (refsR S p).length ((refsR S p).map Value.string)∧Below w.heap.size w w':=by
 obtain ⟨W,hW⟩:∃W,w.alloc (.cells #[.slice none 0 0,.slice none 0 0,.string ⟨#[]⟩] 80)=W:=⟨_,rfl⟩;have hb0:Below w.heap.size w W:=by rw[← hW];exact (Below.refl _ w).alloc (Nat.le_refl _) _
 have k0:W.heap[w.heap.size]?=some (.cells #[.slice none 0 0,.slice none 0 0,.string ⟨#[]⟩] 80 (0,0)):=by rw[← hW];exact block_new w _
 have h:=h.below hb0;have hT2:=tabs2 hT;have hT:=tabsB hT2 hT hb0;have cE:=hide (entries_any q b W h.1);have cG:Hid (Calls Tryz.prog 69 #[.map (some b),.string p] W fun e w'=>∃ta tc ra rc,e=.returned (.tuple #[.agg #[.slice ta (nodesR S p).length tc,.slice ra (refsR S p).length rc,.string (sumR S p)],.int .i64 (errG S p)])∧w'.ownsRow W.heap.size 42 3 (.slice ta (nodesR S p).length tc) (nodesR S p).length (flat3 (nodesR S p))∧w'.ownsRow W.heap.size 9 1 (.slice ra (refsR S p).length rc) (refsR S p).length ((refsR S p).map Value.string)∧Below W.heap.size W w'):=hide (by
  unfold nodesR refsR sumR errG;cases hf:findS S p with
  | none=>
   refine (Get_none b S p W h.2 hf hs).mono ?_;rintro e w' ⟨rfl,hb⟩;exact ⟨none,0,none,0,rfl,World.ownsRow_nil _ _ _ _,World.ownsRow_nil _ _ _ _,hb⟩
  | some E=>
   obtain ⟨hE,_⟩:=findS_some hf;have ht:=hO.tree E hE;refine (Get_own b S p W h.2 E hf hs hT ht.2 (by rw[firstW_ref];exact ht.1.right) (hO.closed.refs E hE) (hO.rs E hE)).mono ?_;rintro e w' ⟨vt,vr,rfl,h1,h2,hb⟩;obtain ⟨ta,tc,rfl,_⟩:=own_sl h1;obtain ⟨ra,rc,rfl,_⟩:=own_sl h2;exact ⟨ta,tc,ra,rc,rfl,h1,h2,hb⟩)
 generalize errG S p=er at cG ⊢;generalize sumR S p=sm at cG ⊢;generalize nodesR S p=ns at cG ⊢;generalize refsR S p=rs at cG ⊢;have HB0:=hide hb0;have K0:=hide k0;clear h hO hT hb0 k0;go_enter Tryz.func42,Tryz.ntmps42
 go_wp2_with fail
 refine cE.out.mono ?_;rintro e w1 ⟨rfl,rfl⟩
 go_wp2_with fail
 refine cG.out.mono ?_;rintro e w2 ⟨ta,tc,ra,rc,rfl,h1,h2,hb⟩;have k2:=(hb.block w.heap.size (lt_of_block K0.out)).trans K0.out;have k20:w2.cell? ⟨w.heap.size,0,none⟩=some (.slice none 0 0):=by simp[World.cell?,k2]
 have k21:w2.cell? ⟨w.heap.size,1,none⟩=some (.slice none 0 0):=by simp[World.cell?,k2]
 have k22:w2.cell? ⟨w.heap.size,2,none⟩=some (.string ⟨#[]⟩):=by simp[World.cell?,k2]
 have f20:w2.frozen? ⟨w.heap.size,0,none⟩=false:=by simp[World.frozen?,k2]
 have f21:w2.frozen? ⟨w.heap.size,1,none⟩=false:=by simp[World.frozen?,k2]
 have f22:w2.frozen? ⟨w.heap.size,2,none⟩=false:=by simp[World.frozen?,k2]
 have HR:=hide (And.intro h1 (And.intro h2 hb));have K2:=hide k2;clear h1 h2 hb cG k2 hW;go_wp2;refine bodyPost_ret (results_cell_two rfl _ _ w.heap.size 80 _ (0,0) _ rfl (row3 K2.out) Tryz.underlying80 rfl (by kernel_rfl)) rfl ?_;obtain ⟨h1,h2,hb⟩:=HR.out;have kt:∀t:TypeId,t≠80→KeepT t w2 (((w2.setCell ⟨w.heap.size,0,none⟩ (.slice ta ns.length tc)).setCell ⟨w.heap.size,1,none⟩ (.slice ra rs.length rc)).setCell ⟨w.heap.size,2,none⟩ (.string sm)):=fun t ht=>((set_keepT K2.out ht).trans (set_keepT (set_blk K2.out 0 _) ht)).trans (set_keepT (set_blk (set_blk K2.out 0 _) 1 _) ht)
 exact ⟨_,_,_,_,rfl,own_keepT (own_base h1 HB0.out.size) (kt 42 (by decide)),own_keepT (own_base h2 HB0.out.size) (kt 9 (by decide)),(((HB0.out.trans (hb.mono HB0.out.size)).setCell (Nat.le_refl _) _).setCell (Nat.le_refl _) _).setCell (Nat.le_refl _) _⟩
theorem cellA {w:World} {a:Addr} {u:Value} (o:Obj) (h:w.cell? a=some u):(w.alloc o).cell? a=some u:=cellB ((Below.refl _ w).alloc (Nat.le_refl _) o) h
theorem belA {w w1:World} (h:Below w.heap.size w w1) (o:Obj):Below w.heap.size w (w1.alloc o):=h.alloc h.size o
theorem three_new (w:World) (a b c:Value) (t:TypeId):(w.alloc (.cells #[a,b,c] t)).cell? ⟨w.heap.size,0,none⟩=some a∧(w.alloc (.cells #[a,b,c] t)).cell? ⟨w.heap.size,1,none⟩=some b∧(w.alloc (.cells #[a,b,c] t)).cell? ⟨w.heap.size,2,none⟩=some c:=by
 have hk:=block_new w (.cells #[a,b,c] t);refine ⟨?_,?_,?_⟩ <;> (simp only[World.cell?,hk];rfl)
theorem two_new (w:World) (a b:Value) (t:TypeId):(w.alloc (.cells #[a,b] t)).cell? ⟨w.heap.size,0,none⟩=some a∧(w.alloc (.cells #[a,b] t)).cell? ⟨w.heap.size,1,none⟩=some b:=by
 have hk:=block_new w (.cells #[a,b] t);refine ⟨?_,?_⟩ <;> (simp only[World.cell?,hk];rfl)
section
variable {A A':Nat→Prop} {B wb:Nat} {prs:List Pr} {bs:List ByteArray} {ls ts:List (Value × Nat)} {vss vbs vls vts:Value} {w:World}
theorem nodesW (h:WR A B wb prs bs ls ts vss vbs vls vts w) (v:Value) (ns:List Nd) {Bv:Nat} (hv:w.ownsRow Bv 42 3 v ns.length (flat3 ns)) (hB:B≤Bv) (hBv:Bv≤w.heap.size) (hvA:∀g,v.ownBlock=some g→A g) (hA:∀k,A' k→A k∧k<w.heap.size∧v.ownBlock≠some k) (hn:ns.length≤2000000) (htl:ts.length≤1000000) :
  Calls Tryz.prog 21 #[.pointer (some ⟨wb,0,none⟩),v] w fun e w'=>e=.returned (.tuple #[])∧∃ts' vts',WR A' B wb prs bs ls ts' vss vbs vls vts' w'∧ts'.length=ts.length+1∧KO (fun k=>k=wb∨vts.ownBlock=some k∨v.ownBlock=some k) w w':=by
 have:=nodes_any B Bv wb vss vbs vls vts v false (ts.map (·.1)) ns w h.wbk (by rw[List.length_map];exact h.rts) (by rw[List.length_map];exact htl) hv hn hBv (Nat.le_trans hB hBv);refine this.mono ?_;rintro e w' ⟨rfl,v',vts',h1,h2,h3,h4,h5,h6⟩;rw[List.length_map]at h2 h3;refine ⟨rfl,_,vts',h.nodes hv hB hvA (fun k hk=>(hA k hk).1) (fun g hg ha=>?_) (fun k hk=>(hA k hk).2.1) h1 h2 h3 h4 h5,by simp,h4⟩;rcases h6 g hg with h7 | h7
 ·exact (hA g ha).2.2 h7
 ·have:=(hA g ha).2.1;omega
theorem mineW (h:WR A B wb prs bs ls ts vss vbs vls vts w) (v:Value) {n:Nat} {xs:List Value} {Bv:Nat} (hv:w.ownsRow Bv 9 1 v n xs) (hB:B≤Bv) (hBv:Bv≤w.heap.size) (hvA:∀g,v.ownBlock=some g→A g) (hA:∀k,A' k→A k∧k<w.heap.size∧v.ownBlock≠some k) (hn:n≤2000000) (htl:ls.length≤1000000) :
  Calls Tryz.prog 22 #[.pointer (some ⟨wb,0,none⟩),v] w fun e w'=>e=.returned (.tuple #[])∧∃ls' vls',WR A' B wb prs bs ls' ts vss vbs vls' vts w'∧ls'.length=ls.length+1∧KO (fun k=>k=wb∨vls.ownBlock=some k∨v.ownBlock=some k) w w':=by
 have:=mine_any B Bv wb vss vbs vls vts v false (ls.map (·.1)) xs n w h.wbk (by rw[List.length_map];exact h.rls) (by rw[List.length_map];exact htl) hv hn hBv (Nat.le_trans hB hBv);refine this.mono ?_;rintro e w' ⟨rfl,v',vls',h1,h2,h3,h4,h5,h6⟩;rw[List.length_map]at h2 h3;refine ⟨rfl,_,vls',h.mine hv hB hvA (fun k hk=>(hA k hk).1) (fun g hg ha=>?_) (fun k hk=>(hA k hk).2.1) h1 h2 h3 h4 h5 h6,by simp,h4⟩;rcases h6 g hg with h7 | h7
 ·exact (hA g ha).2.2 h7
 ·have:=(hA g ha).2.1;omega
theorem WR.koN (h:WR A B wb prs bs ls ts vss vbs vls vts w) {v:Value} {n:Nat} {xs:List Value} {Bv:Nat} {w':World} (hv:w.ownsRow Bv 42 3 v n xs) (hk:KO (fun k=>k=wb∨vts.ownBlock=some k∨v.ownBlock=some k) w w') {t:TypeId} (h1:t≠36) (h2:t≠25) (h3:t≠42):KeepT t w w':=hk.keepT fun k cs fz hx=>by
 rcases hx with rfl | hx | hx
 ·exact fun hc=>h1 (cells_type hc h.wbk)
 ·exact own_not h.rts (Ne.symm h2) hx cs fz
 ·exact own_not hv (Ne.symm h3) hx cs fz
theorem WR.belN (h:WR A B wb prs bs ls ts vss vbs vls vts w) {v:Value} {n:Nat} {xs:List Value} {Bv:Nat} {w':World} (hv:w.ownsRow Bv 42 3 v n xs) (hB:B≤Bv) (hBw:B≤w.heap.size) (hk:KO (fun k=>k=wb∨vts.ownBlock=some k∨v.ownBlock=some k) w w'):Below B w w':=hk.below hBw fun k hlt hx=>by
 rcases hx with rfl | hx | hx
 ·have:=h.hB;omega
 ·have:=(h.rts.lt k hx).1;omega
 ·have:=(hv.lt k hx).1;omega
theorem WR.belM (h:WR A B wb prs bs ls ts vss vbs vls vts w) {v:Value} {n:Nat} {xs:List Value} {Bv:Nat} {w':World} (hv:w.ownsRow Bv 9 1 v n xs) (hB:B≤Bv) (hBw:B≤w.heap.size) (hk:KO (fun k=>k=wb∨vls.ownBlock=some k∨v.ownBlock=some k) w w'):Below B w w':=hk.below hBw fun k hlt hx=>by
 rcases hx with rfl | hx | hx
 ·have:=h.hB;omega
 ·have:=(h.rls.lt k hx).1;omega
 ·have:=(hv.lt k hx).1;omega
theorem own_apart {Bx By s m n:Nat} {e f:TypeId} {s':Nat} {u v:Value} {xs ys:List Value} (hu:w.ownsRow Bx e s u m xs) (hv:w.ownsRow By f s' v n ys) (hne:e≠f) {k:Nat} (hk:v.ownBlock=some k):u.ownBlock≠some k:=fun h=>by
 obtain ⟨c1,h1⟩:=own_block hu h;obtain ⟨c2,h2⟩:=own_block hv hk;exact hne (cells_type h1 h2)
end
def LStep (B wb:Nat) (prs:List Pr) (bs:List ByteArray) (ls ts:List (Value × Nat)) (w:World) (w':World):Prop:=∃prs' ls' ts' vss' vbs' vls' vts',WR (fun _=>False) B wb prs' bs ls' ts' vss' vbs' vls' vts' w'∧prs'.length≤prs.length+1∧ls'.length≤ls.length+1∧ts'.length≤ts.length+1∧Below B w w'
theorem fin_two {B wb:Nat} {prs:List Pr} {bs:List ByteArray} {ls ts:List (Value × Nat)} {vss vbs vls vts:Value} {w W:World} (h:WR (fun _=>False) B wb prs bs ls ts vss vbs vls vts w) (hBw:B≤w.heap.size) (hb:Below w.heap.size w W) (v1:Value) (ns:List Nd) (h1:W.ownsRow w.heap.size 42 3 v1 ns.length (flat3 ns)) (v2:Value) (n2:Nat) (xs:List Value) (h2:W.ownsRow w.heap.size 9 1 v2 n2 xs) (hn:ns.length≤2000000) (hn2:n2≤2000000) (hl:ls.length≤900000) (htl:ts.length≤900000) :
  Calls Tryz.prog 21 #[.pointer (some ⟨wb,0,none⟩),v1] W fun e w8=>e=.returned (.tuple #[])∧KeepT 80 W w8∧Calls Tryz.prog 22 #[.pointer (some ⟨wb,0,none⟩),v2] w8 fun e w9=>e=.returned (.tuple #[])∧LStep B wb prs bs ls ts w w9:=by
 have hA:WR (fun k=>v1.ownBlock=some k∨v2.ownBlock=some k) B wb prs bs ls ts vss vbs vls vts W:=(h.avoid (A':=fun k=>v1.ownBlock=some k∨v2.ownBlock=some k) (fun k hk=>by
  rcases hk with hk | hk
  ·exact (h1.lt k hk).1
  ·exact (h2.lt k hk).1)).below hb
 refine (nodesW (A':=fun k=>v2.ownBlock=some k) hA v1 ns h1 hBw hb.size (fun g hg=>.inl hg) (fun k hk=>⟨.inr hk,(h2.lt k hk).2,own_apart h1 h2 (by decide) hk⟩) hn (by omega)).mono ?_;rintro e w8 ⟨rfl,ts',vts',h8,hts,hk8⟩;have h28:=own_keepT h2 (hA.koN h1 hk8 (t:=9) (by decide) (by decide) (by decide));have hb8:=hA.belN h1 hBw (Nat.le_trans hBw hb.size) hk8;refine ⟨rfl,hA.koN h1 hk8 (by decide) (by decide) (by decide),?_⟩;refine (mineW (A':=fun _=>False) h8 v2 h28 hBw (Nat.le_trans hb.size hk8.size) (fun g hg=>hg) (fun k hk=>hk.elim) hn2 (by omega)).mono ?_;rintro e w9 ⟨rfl,ls',vls',h9,hls,hk9⟩;have hb9:=h8.belM h28 hBw (Nat.le_trans (Nat.le_trans hBw hb.size) hk8.size) hk9;exact ⟨rfl,prs,ls',ts',vss,vbs,vls',vts',h9,by omega,by omega,by omega,((hb.mono hBw).trans hb8).trans hb9⟩
theorem get_any {B wb:Nat} {prs:List Pr} {bs:List ByteArray} {ls ts:List (Value × Nat)} {vss vbs vls vts:Value} {w:World} (h:WR (fun _=>False) B wb prs bs ls ts vss vbs vls vts w) (i:Nat) (hi:i<prs.length) (name:ByteArray) (hT:Lib.Utf8Tabs 0 1 w) (hs:name.size≤1000000000) (hl:ls.length≤900000) (htl:ts.length≤900000) (hBw:B≤w.heap.size) :
  Calls Tryz.prog 23 #[.pointer (some ⟨wb,0,none⟩),.agg #[.pointer (some ⟨prs[i].q,0,none⟩),.pointer (some ⟨prs[i].r,0,none⟩)],.string name] w fun e w'=>e=.returned (.bool true)∧LStep B wb prs bs ls ts w w':=by
 have hp:=h.pr prs[i] (List.getElem_mem _);have hT2:=tabs2 hT;have cX:Hid (∀V,Below w.heap.size w V→Calls Tryz.prog 42 #[.pointer (some ⟨prs[i].q,0,none⟩),.string name] V fun e w'=>∃ta tc ra rc,e=.returned (.tuple #[.agg #[.slice ta (nodesR prs[i].S name).length tc,.slice ra (refsR prs[i].S name).length rc,.string (sumR prs[i].S name)],.int .i64 (errG prs[i].S name)])∧w'.ownsRow V.heap.size 42 3 (.slice ta (nodesR prs[i].S name).length tc) (nodesR prs[i].S name).length (flat3 (nodesR prs[i].S name))∧w'.ownsRow V.heap.size 9 1 (.slice ra (refsR prs[i].S name).length rc) (refsR prs[i].S name).length ((refsR prs[i].S name).map Value.string)∧Below V.heap.size V w'):=hide fun V hV=>narGet_any _ _ _ name V (hp.n.st.below hV) hp.ok.ok (tabsB hT2 hT hV) hs
 have cM:Hid (∀V,Below w.heap.size w V→Calls Tryz.prog 43 #[.pointer (some ⟨prs[i].r,0,none⟩),.string name] V fun e w'=>∃ta tc ra rc,e=.returned (.tuple #[.agg #[.slice ta (nodesR prs[i].S name).length tc,.slice ra (refsR prs[i].S name).length rc,.string (sumR prs[i].S name)],.bool (findS prs[i].S name).isSome])∧SliceN w' (.slice ta (nodesR prs[i].S name).length tc) (nodesR prs[i].S name)∧SliceS w' (.slice ra (refsR prs[i].S name).length rc) (refsR prs[i].S name)∧Below V.heap.size V w'):=hide fun V hV=>by
  refine (rGet_any _ _ name V (hp.r.st.below hV) hp.ok.ok.good (fun e he=>(hp.ok.ok.tree e he).2)).mono ?_;rintro e w' ⟨vt,vr,rfl,h1,h2,hb⟩;obtain ⟨ta,tc,rfl,hh1⟩:=h1;obtain ⟨ra,rc,rfl,hh2⟩:=h2;exact ⟨ta,tc,ra,rc,rfl,⟨ta,tc,rfl,hh1⟩,⟨ra,rc,rfl,hh2⟩,hb⟩
 have HLN:Hid ((nodesR prs[i].S name).length≤1000000∧(refsR prs[i].S name).length≤1000000∧((findS prs[i].S name).isSome=true→0<(nodesR prs[i].S name).length)∧((findS prs[i].S name).isSome=false→nodesR prs[i].S name=[]∧refsR prs[i].S name=[]∧sumR prs[i].S name=⟨#[]⟩)):=hide (by
  unfold nodesR refsR sumR;cases hf:findS prs[i].S name with
  | none=>exact ⟨by simp,by simp,fun h=>by simp at h,fun _=>⟨rfl,rfl,rfl⟩⟩
  | some E=>
   obtain ⟨hE,_⟩:=findS_some hf;obtain ⟨h1,h2,_⟩:=len30 E.nodes (hp.ok.ok.tree E hE).1.right;exact ⟨by simp only;omega,hp.ok.ok.closed.refs E hE,fun _=>List.length_pos_iff.2 h2,fun h=>by simp at h⟩)
 have H:=hide h;obtain ⟨Q,hQ⟩:∃Q,errG prs[i].S name=Q:=⟨_,rfl⟩;rw[hQ]at cX;unfold errG at hQ;generalize prs[i].q=q at cX ⊢;generalize prs[i].r=r at cM ⊢;generalize sumR prs[i].S name=sm at cX cM HLN;generalize nodesR prs[i].S name=ns at cX cM HLN;generalize refsR prs[i].S name=rs at cX cM HLN;generalize (findS prs[i].S name).isSome=fd at cM HLN hQ;clear hp h hT;have HBW:=hide (belA (Below.refl _ w) (.cells #[.pointer (some ⟨q,0,none⟩),.pointer (some ⟨r,0,none⟩)] 50));obtain ⟨b0,b1⟩:=two_new w (.pointer (some ⟨q,0,none⟩)) (.pointer (some ⟨r,0,none⟩)) 50;have KB:=hide (block_new w (.cells #[.pointer (some ⟨q,0,none⟩),.pointer (some ⟨r,0,none⟩)] 50));go_enter Tryz.func23,Tryz.ntmps23
 go_wp2_with fail
 refine (cX.out _ HBW.out).mono ?_;rintro e w2 ⟨ta,tc,ra,rc,rfl,h1,h2,hb2⟩;have HB2:=hide (HBW.out.trans (hb2.mono HBW.out.size));have b21:=cellB hb2 b1;have HV1:=hide (own_base h1 HBW.out.size);have HV2:=hide (own_base h2 HBW.out.size);clear h1 h2 hb2 cX b0 b1;obtain ⟨a0,a1,a2⟩:=three_new w2 (.slice ta ns.length tc) (.slice ra rs.length rc) (.string sm) 80;have KA:=hide (block_new w2 (.cells #[.slice ta ns.length tc,.slice ra rs.length rc,.string sm] 80));have HB3:=hide (belA HB2.out (.cells #[.slice ta ns.length tc,.slice ra rs.length rc,.string sm] 80));have b31:=cellA (.cells #[.slice ta ns.length tc,.slice ra rs.length rc,.string sm] 80) b21
 go_wp2_with fail
 refine (cM.out _ HB3.out).mono ?_;rintro e w4 ⟨ta',tc',ra',rc',rfl,h1,h2,hb4⟩;have HB4:=hide (HB3.out.trans (hb4.mono HB3.out.size));have HA23:=hide ((((Below.refl _ w2).alloc (Nat.le_refl _) (.cells #[.slice ta ns.length tc,.slice ra rs.length rc,.string sm] 80))).trans (hb4.mono (by rw[World.size_alloc];omega)));have KA4:=hide ((hb4.block _ (lt_of_block KA.out)).trans KA.out);have a40:=cellA (.cells #[.slice ta' ns.length tc',.slice ra' rs.length rc',.string sm] 80) (cellB hb4 a0);have a41:=cellA (.cells #[.slice ta' ns.length tc',.slice ra' rs.length rc',.string sm] 80) (cellB hb4 a1);have a42:=cellA (.cells #[.slice ta' ns.length tc',.slice ra' rs.length rc',.string sm] 80) (cellB hb4 a2);obtain ⟨d0,d1,d2⟩:=three_new w4 (.slice ta' ns.length tc') (.slice ra' rs.length rc') (.string sm) 80;have HB5:=hide (belA HB4.out (.cells #[.slice ta' ns.length tc',.slice ra' rs.length rc',.string sm] 80));have H45:=hide ((Below.refl _ w4).alloc (Nat.le_refl _) (.cells #[.slice ta' ns.length tc',.slice ra' rs.length rc',.string sm] 80));have HN4:=hide (h1.below H45.out);have HS4:=hide (h2.below H45.out);have HV15:=hide (own_below (own_below HV1.out HA23.out) H45.out);have HV25:=hide (own_below (own_below HV2.out HA23.out) H45.out);have KA5:Hid ((w4.alloc (.cells #[.slice ta' ns.length tc',.slice ra' rs.length rc',.string sm] 80)).heap[w2.heap.size]?=some (.cells #[.slice ta ns.length tc,.slice ra rs.length rc,.string sm] 80 (0,0))):=hide (block_keep _ KA4.out);clear h1 h2 hb4 cM a0 a1 a2 b21 b31 HA23 KA KA4 HB3 HB4 H45 HV1 HV2 KB HBW HB2;cases fd with
 | false=>
  rw[if_neg (by simp)]at hQ;subst hQ;obtain ⟨rfl,rfl,rfl⟩:=HLN.out.2.2.2 rfl;have CF:=hide (fin_two H.out hBw HB5.out _ [] HV15.out _ _ _ HV25.out (by simp) (by simp) hl htl);simp only[List.length_nil]at *
  go_wp2_with fail
  refine CF.out.mono ?_;rintro e w8 ⟨rfl,hk8,cN⟩;have k8:=(hk8 _ _ _ KA5.out).trans KA5.out;have r8:w8.cell? ⟨w2.heap.size,1,none⟩=some (.slice ra 0 rc):=by simp[World.cell?,k8]
  have CN:=hide cN;clear cN hk8 k8 CF a40 a41 a42 d0 d1 d2
  go_wp2_with fail
  refine CN.out.mono ?_;rintro e w9 ⟨rfl,hst⟩;have HST:=hide hst;clear hst CN r8;go_wp2;go_ret;exact ⟨rfl,HST.out⟩
 | true=>
  rw[if_pos rfl]at hQ;subst hQ;have hpos:=HLN.out.2.2.1 rfl;obtain ⟨hn1,hn2,_⟩:=HLN.out;obtain ⟨_,hown⟩:=own_nodes HV15.out;obtain ⟨g,cap,hge,hglt,hgN⟩:=hown hpos;injection hge with hge _ hcc
  subst hge;subst hcc;obtain ⟨x1,x2,hxe,_,_,_,hxN⟩:=HN4.out;injection hxe with hxe1 _ hxe2
  subst hxe1;subst hxe2;obtain ⟨gb,go,hxa,hglt',hgN'⟩:=hxN hpos;subst hxa;have cT:=hide (sameTree_any g 0 tc gb go tc' ns _ hglt hglt' hgN hgN' hn1 hpos);clear hgN hgN' hxN hown
  go_wp2_with fail
  refine cT.out.mono ?_;rintro e w6 ⟨rfl,hb6⟩;have cS:=hide (lsameText_any _ _ rs rs w6 (own_strs (own_below HV25.out hb6)) (HS4.out.below hb6) (by omega) (by omega));have e40:=cellB hb6 a40;have e41:=cellB hb6 a41;have f41:=cellB hb6 d1;have HB6:=hide (HB5.out.trans (hb6.mono HB5.out.size));have HV16:=hide (own_below HV15.out hb6);have HV26:=hide (own_below HV25.out hb6);have KA6:=hide ((hb6.block _ (lt_of_block KA5.out)).trans KA5.out);have hee:eqL rs rs=true:=decide_eq_true rfl;rw[hee]at cS;clear hb6 cT a40 a41 a42 d0 d1 d2 HV15 HV25 HB5 KA5 hee
  go_wp2_with fail
  refine cS.out.mono ?_;rintro e w7 ⟨rfl,hb7⟩;have g40:=cellB hb7 e40;have g41:=cellB hb7 e41;have HB7:=hide (HB6.out.trans (hb7.mono HB6.out.size));have HV17:=hide (own_below HV16.out hb7);have HV27:=hide (own_below HV26.out hb7);have KA7:=hide ((hb7.block _ (lt_of_block KA6.out)).trans KA6.out);have CF:=hide (fin_two H.out hBw HB7.out _ ns HV17.out _ _ _ HV27.out (by omega) (by omega) hl htl);clear hb7 cS e40 e41 f41 HV16 HV26 HB6 KA6
  go_wp2_with fail
  refine CF.out.mono ?_;rintro e w8 ⟨rfl,hk8,cN⟩;have k8:=(hk8 _ _ _ KA7.out).trans KA7.out;have r8:w8.cell? ⟨w2.heap.size,1,none⟩=some (.slice ra rs.length rc):=by simp[World.cell?,k8]
  have CN:=hide cN;clear cN hk8 k8 CF g40 g41
  go_wp2_with fail
  refine CN.out.mono ?_;rintro e w9 ⟨rfl,hst⟩;have HST:=hide hst;clear hst CN r8;go_wp2;go_ret;exact ⟨rfl,HST.out⟩
end Go.Proofs.YticfcjmlphhpgaaGreatDoor
namespace Go.Proofs.YticfcjmlphhpgaaGreatDoor
open Go.RowKit
def pickN (c:Int) (n:Nat):Nat:=if c<0 then ((-(c+1)) % (n:Int)).toNat else (c % (n:Int)).toNat
theorem pickN_lt (c:Int) {n:Nat} (hn:0<n):pickN c n<n:=by
 have hn':(0:Int)<n:=by omega
 unfold pickN
 split
 ·have:=Int.emod_lt_of_pos (-(c+1)) hn';omega
 ·have:=Int.emod_lt_of_pos c hn';omega
theorem pick_det (c:Int) (n:Nat) (hn:0<n) (hl:n≤1000000) (hc:-9223372036854775808≤c∧c≤9223372036854775807) (w:World):Calls Tryz.prog 18 #[.int .i64 c,.int .i64 n] w fun e w'=>e=.returned (.int .i64 (pickN c n:Nat))∧w'=w:=by
 unfold pickN
 by_cases h:c<0
 ·rw[if_pos h];obtain ⟨i,hi,h1⟩:∃i:Nat,((-(c+1)) % (n:Int)).toNat=i∧-(c+1).tmod (n:Int)=i:=⟨_,rfl,(pick_neg hn h).1⟩;rw[hi];clear hi;go_enter Tryz.func18,Tryz.ntmps18;go_wp2;go_ret;exact ⟨rfl,rfl⟩
 ·rw[if_neg h];have h1:=Int.emod_nonneg c (by omega:(n:Int)≠0);have h3:c % (n:Int)=((c % (n:Int)).toNat:Int):=(Int.toNat_of_nonneg h1).symm;generalize (c % (n:Int)).toNat=i at h3 ⊢;clear h1;go_enter Tryz.func18,Tryz.ntmps18;go_wp2;go_ret;exact ⟨rfl,rfl⟩
theorem reg15_10 (wb ob g n cap i q r:Nat) (A:Int) (w:World) (hi:i<n) (c0:w.cell? ⟨wb,0,none⟩=some (.slice (some ⟨g,0,none⟩) n cap)) (cA:w.cell? ⟨ob,1,none⟩=some (.int .i64 A)) (p0:w.cell? ⟨g,i*2,none⟩=some (.pointer (some ⟨q,0,none⟩))) (p1:w.cell? ⟨g,i*2+1,none⟩=some (.pointer (some ⟨r,0,none⟩)))
  (cK:∀V:World,Calls Tryz.prog 18 #[.int .i64 A,.int .i64 (n:Nat)] V fun e w'=>e=.returned (.int .i64 (i:Nat))∧w'=V) (u1 u2 u4 u5 u6 u7 u8 u9 u10 u11 u12 u13 u14 u15 u16 u17 u18 u19 u20 u21 u22 u23 u24 u25 u26 u27 u28 u29 u30 u31 u32 u33 u34 u35 u36 u37 u38 u39 u40 u41 u42 u43 u44 u45 u46 u47 u48 u49 u50 u51 u52 u53 u54 u55 u56 u57 u58 u59 u60 u61 u62 u63 u64 u65 u66 u67 u68 u69 u70 u71 u72 u73 u74 u75 u76 u77 u78 u79 u80 u81 u82 u83 u84 u85 u86 u87 u88 u89 u90 u91 u92 u93 u94 u95 u96 u97 u98 u99 u100 u101 u102 u103 u104 u105 u106 u107 u108 u109 u110 u111 u112 u113 u114 u115 u116 u117 u118 u119 u120 u121 u122 u123 u124 u125 u126 u127 u128 u129 u130 u131 u132 u133 u134 u135 u136 u137 u138 u139 u140 u141 u142 u143 u144 u145 u146 u147 u148 u149 u150 u151 u152 u153 u154 u155 u156 u157 u158 u159 u160 u161 u162 u163 u164 u165 u166 u167 u168 u169 u170 u171 u172 u173 u174 u175 u176 u177 u178 u179 u180 u181 u182 u183 u184 u185 u186 u187 u188 u189 u190 u191 u192 u193 u194 u195 u196 u197 u198 u199 u200 u201 u202 u203 u204 u205 u206 u207 u208 u209 u210 u211 u212 u213 u214 u215 u216 u217 u218 u219 u220 u221 u222 u223 u224 u225 u226 u227 u228 u229 u230 u231 u232 u233 u234 u235 u236 u237 u238 u239 u240 u241 u242 u243 u244 u245 u246 u247 u248 u249 u250 u251 u252 u253 u254 u255 u256 u257 u258 u259:Value) :
  Code.wp Tryz.prog (regC Tryz.f15 10) (Exit.then (fun a w'=>(∃v58 v59 v60 v61 v62 v63 v64 v65 v66 v67 v68 v69 v70 v71:Value,a=⟨#[.pointer (some ⟨wb,0,none⟩),u1,u2,.pointer (some ⟨ob,0,none⟩),u4,u5,.pointer (some ⟨w.heap.size,0,none⟩),u7,u8,u9,u10,u11,u12,u13,u14,u15,u16,u17,u18,u19,u20,u21,u22,u23,u24,u25,u26,u27,u28,u29,u30,u31,u32,u33,u34,u35,u36,u37,u38,u39,u40,u41,u42,u43,u44,u45,u46,u47,u48,u49,u50,u51,u52,u53,u54,u55,u56,u57,v58,v59,v60,v61,v62,v63,v64,v65,v66,v67,v68,v69,v70,v71,u72,u73,u74,u75,u76,u77,u78,u79,u80,u81,u82,u83,u84,u85,u86,u87,u88,u89,u90,u91,u92,u93,u94,u95,u96,u97,u98,u99,u100,u101,u102,u103,u104,u105,u106,u107,u108,u109,u110,u111,u112,u113,u114,u115,u116,u117,u118,u119,u120,u121,u122,u123,u124,u125,u126,u127,u128,u129,u130,u131,u132,u133,u134,u135,u136,u137,u138,u139,u140,u141,u142,u143,u144,u145,u146,u147,u148,u149,u150,u151,u152,u153,u154,u155,u156,u157,u158,u159,u160,u161,u162,u163,u164,u165,u166,u167,u168,u169,u170,u171,u172,u173,u174,u175,u176,u177,u178,u179,u180,u181,u182,u183,u184,u185,u186,u187,u188,u189,u190,u191,u192,u193,u194,u195,u196,u197,u198,u199,u200,u201,u202,u203,u204,u205,u206,u207,u208,u209,u210,u211,u212,u213,u214,u215,u216,u217,u218,u219,u220,u221,u222,u223,u224,u225,u226,u227,u228,u229,u230,u231,u232,u233,u234,u235,u236,u237,u238,u239,u240,u241,u242,u243,u244,u245,u246,u247,u248,u249,u250,u251,u252,u253,u254,u255,u256,u257,u258,u259],[]⟩)∧Below w.heap.size w w'∧w'.heap[w.heap.size]?=some (.cells #[.pointer (some ⟨q,0,none⟩),.pointer (some ⟨r,0,none⟩)] 50 (0,0))) (fun _ _ _=>False)) ⟨#[.pointer (some ⟨wb,0,none⟩),u1,u2,.pointer (some ⟨ob,0,none⟩),u4,u5,u6,u7,u8,u9,u10,u11,u12,u13,u14,u15,u16,u17,u18,u19,u20,u21,u22,u23,u24,u25,u26,u27,u28,u29,u30,u31,u32,u33,u34,u35,u36,u37,u38,u39,u40,u41,u42,u43,u44,u45,u46,u47,u48,u49,u50,u51,u52,u53,u54,u55,u56,u57,u58,u59,u60,u61,u62,u63,u64,u65,u66,u67,u68,u69,u70,u71,u72,u73,u74,u75,u76,u77,u78,u79,u80,u81,u82,u83,u84,u85,u86,u87,u88,u89,u90,u91,u92,u93,u94,u95,u96,u97,u98,u99,u100,u101,u102,u103,u104,u105,u106,u107,u108,u109,u110,u111,u112,u113,u114,u115,u116,u117,u118,u119,u120,u121,u122,u123,u124,u125,u126,u127,u128,u129,u130,u131,u132,u133,u134,u135,u136,u137,u138,u139,u140,u141,u142,u143,u144,u145,u146,u147,u148,u149,u150,u151,u152,u153,u154,u155,u156,u157,u158,u159,u160,u161,u162,u163,u164,u165,u166,u167,u168,u169,u170,u171,u172,u173,u174,u175,u176,u177,u178,u179,u180,u181,u182,u183,u184,u185,u186,u187,u188,u189,u190,u191,u192,u193,u194,u195,u196,u197,u198,u199,u200,u201,u202,u203,u204,u205,u206,u207,u208,u209,u210,u211,u212,u213,u214,u215,u216,u217,u218,u219,u220,u221,u222,u223,u224,u225,u226,u227,u228,u229,u230,u231,u232,u233,u234,u235,u236,u237,u238,u239,u240,u241,u242,u243,u244,u245,u246,u247,u248,u249,u250,u251,u252,u253,u254,u255,u256,u257,u258,u259],[]⟩ w:=by
 unfold regC
 conv=>arg 2;whnf
 have n0:=World.new_ne w ⟨wb,0,none⟩ c0;have n1:=World.new_ne w ⟨ob,1,none⟩ cA;have n2:=World.new_ne w ⟨g,i*2,none⟩ p0;have n3:=World.new_ne w ⟨g,i*2+1,none⟩ p1;have CK:=hide cK;have hiz:(0:Int)≤(i:Int):=by omega
 have hiz2:(i:Int)<(n:Int):=by omega
 clear cK
 go_region_held3 (fun w'=>w'.cell? ⟨wb,0,none⟩=some (.slice (some ⟨g,0,none⟩) n cap)∧w'.cell? ⟨ob,1,none⟩=some (.int .i64 A)∧w'.cell? ⟨g,i*2,none⟩=some (.pointer (some ⟨q,0,none⟩))∧w'.cell? ⟨g,i*2+1,none⟩=some (.pointer (some ⟨r,0,none⟩))) (go_keep) (first
  | (go_at_call 18;refine (CK.out _).mono ?_;rintro e w1 ⟨rfl,rfl⟩))
 all_goals exact ⟨⟨_,_,_,_,_,_,_,_,_,_,_,_,_,_,rfl⟩,drewT (belA (Below.refl _ w) _),block_new w _⟩
def SliceI (w:World) (v:Value) (cs:List Int):Prop:=
 ∃a cap,v=.slice a cs.length cap∧cs.length≤cap∧(∀c∈cs,-9223372036854775808≤c∧c≤9223372036854775807)∧(0<cs.length→∃b off,a=some ⟨b,off,none⟩∧b<w.heap.size∧∀j (h:j<cs.length),w.cell? ⟨b,off+j,none⟩=some (.int .i64 cs[j]))
def strLen:Value→Nat
 | .string s=>s.size
 | _=>0
theorem extract_split (s:ByteArray) (n:Nat):s.data.toList=(s.extract 0 n).data.toList++(s.extract n s.size).data.toList:=by
 rw[Lib.extract_data,Lib.extract_data];simp only[List.drop_zero,Nat.sub_zero];rw[List.take_of_length_le (l:=s.data.toList.drop n) (by simp),List.take_append_drop]
def catP (ps:List ByteArray):Bs:=ps.flatMap (·.data.toList)
theorem catP_snoc (ps:List ByteArray) (p:ByteArray):catP (ps++[p])=catP ps++p.data.toList:=by simp[catP]
theorem SliceI.below {w w':World} {v:Value} {cs:List Int} (h:SliceI w v cs) (hb:Below w.heap.size w w'):SliceI w' v cs:=by
 obtain ⟨a,cap,rfl,h1,h2,h3⟩:=h;refine ⟨a,cap,rfl,h1,h2,fun hn=>?_⟩;obtain ⟨b,off,rfl,h4,h5⟩:=h3 hn;refine ⟨b,off,rfl,Nat.lt_of_lt_of_le h4 hb.size,fun j hj=>?_⟩;rw[← h5 j hj];exact hb.cell h4
structure PcS (B:Nat) (w0:World) (w:World) (v:Value) (ps:List ByteArray):Prop where
 own:w.ownsRow B 9 1 v ps.length (ps.map Value.string)
 bel:Below B w0 w
theorem map_snoc (ps:List ByteArray) (p:ByteArray):(ps++[p]).map Value.string=ps.map Value.string++[.string p]:=by simp
theorem PcS.push {B:Nat} {w0 w w':World} {v v':Value} {ps:List ByteArray} (h:PcS B w0 w v ps) (p:ByteArray) (hB:B≤w.heap.size) (hown:w'.ownsRow B 9 1 v' (ps.length+1) (ps.map Value.string++[.string p])) (hg:(w.alloc (.cells #[.string p] 9)).grownBy w' v.ownBlock):PcS B w0 w' v' (ps++[p]):=by
 refine ⟨?_,?_⟩
 ·rw[map_snoc,List.length_append];exact hown
 ·exact (h.bel.alloc (by exact hB) _).grown hg (by simp;omega) (fun k hk=>(h.own.lt k hk).1)
theorem pieces_any (s:ByteArray) (v:Value) (cs:List Int) (w:World) (hv:SliceI w v cs) (hs:s.size+cs.length≤2000000) :
  Calls Tryz.prog 32 #[.string s,v] w fun e w'=>∃v' ps,e=.returned v'∧PcS w.heap.size w w' v' ps∧catP ps=s.data.toList∧ps.length≤2*s.size:=by
 obtain ⟨i9,hi9,h90,h91,h92⟩:=info_parts Tryz.info9;obtain ⟨a,cap,rfl,hcap,hbd,hc⟩:=hv;have HC:=hide hc;have HBD:=hide hbd;clear hc hbd;go_enter Tryz.func32,Tryz.ntmps32;go_wp2
 go_loopw [0,5,6,7] (fun x o k _ w2=>∃(s2:ByteArray) (ps:List ByteArray) (a2:Option Addr) (cap2 j:Nat),x=.string s2∧o=.slice a2 ps.length cap2∧k=.int .i64 (j:Nat)∧j+s2.size≤s.size∧ps.length+2*s2.size≤2*s.size∧Hid (catP ps++s2.data.toList=s.data.toList)∧Hid (PcS w.heap.size w w2 (.slice a2 ps.length cap2) ps)) (fun x _ _ _ _=>strLen x)
 case atStart=>exact ⟨s,[],none,0,0,rfl,rfl,rfl,by omega,by simp,hide (by simp[catP]),hide ⟨World.ownsRow_nil _ _ _ _,Below.refl _ _⟩⟩
 case round=>
  obtain ⟨s2,ps,a2,cap2,j,rfl,rfl,rfl,hj,hps,hcat,hP⟩:=hrel;have hsz:=hP.out.bel.size
  by_cases h0:s2.size=0
  ·have he:s2.toList.isEmpty=true:=by
    have:s2.data.toList=[]:=List.eq_nil_of_length_eq_zero (by simpa using h0);rw[ByteArray.toList_eq,this];rfl
   have hcat':=hcat.out;have hnil:s2.data.toList=[]:=List.eq_nil_of_length_eq_zero (by simpa using h0);rw[hnil,List.append_nil]at hcat';have HCat:=hide hcat';clear hcat hcat' hnil h0;go_wp2;go_ret;exact ⟨_,ps,rfl,hP.out,HCat.out,by omega⟩
  ·have he:s2.toList.isEmpty=false:=by
    rw[ByteArray.toList_eq];cases hh:s2.data.toList with
    | nil=>exact absurd (by have:=congrArg List.length hh;simpa using this) h0
    | cons a t=>rfl
   by_cases hcs:cs.length=0
   ·have hcz:¬ (0:Int)<cs.length:=by omega
    have hnz:¬ (s2.size:Int)≤0:=by omega
    have hx2:(s2.extract s2.size s2.size).size=0:=by rw[ByteArray.size_extract];omega
    have HCat':Hid (catP (ps++[s2])=s.data.toList):=by
     show _=_;rw[catP_snoc];exact hcat.out
    clear hcat
    go_wp2_with (at_builtin;refine wpList_append_own _ rfl (.tmp 33) (.tmp 37) 26 rfl w.heap.size 9 i9 (.string ⟨#[]⟩) 1 16 Tryz.underlying26 hi9 h90 h91 h92 rfl (by decide) _ _ _ rfl (hP.out.own.alloc _) ⟨wr.heap.size,0,none⟩ 1 1 [.string s2] rfl rfl (cell_one_at _ _ _ _ rfl) (fun x hx=>by simp at hx;subst hx;rfl) (by unfold maxLen;omega) (by omega) (by simp;omega) ?_;intro v3 w3 hown3 hgrow3 hnil3;have hP3:=hP.out.push s2 (by omega) hown3 hgrow3;obtain ⟨g3,cap3,rfl,hcap3⟩:=own_form hown3 (by omega);have HP3:=hide hP3;clear hown3 hgrow3 hnil3 hP3)
    go_roundw
    case rel=>exact ⟨.string ByteArray.empty,.slice (some ⟨g3,0,none⟩) (ps.length+1) cap3,.int .i64 ((j:Int)+1),⟨ByteArray.empty,rfl,ps++[s2],some ⟨g3,0,none⟩,cap3,by simp,j+1,by go_num,by simp;omega,by simp;omega,hide (by rw[HCat'.out];simp),by simpa using HP3⟩,rfl,rfl,rfl⟩
    case measure=>simp[strLen];omega
   ·have hcz:(0:Int)<cs.length:=by omega
    obtain ⟨b,off,rfl,hbl,hcell⟩:=HC.out (by omega);have hq:j % cs.length<cs.length:=Nat.mod_lt _ (by omega);have hrem:Int.tmod (j:Int) (cs.length:Int)=((j % cs.length:Nat):Int):=by
     rw[Int.tmod_eq_emod_of_nonneg (by omega)];rfl
    have cc:wr.cell? ⟨b,off+j % cs.length,none⟩=some (.int .i64 (cs[j % cs.length]'hq)):=(hP.out.bel.cell (p:=⟨b,off+j % cs.length,none⟩) hbl).trans (hcell _ hq);have hcb:=HBD.out (cs[j % cs.length]'hq) (List.getElem_mem _);have hqz:((j % cs.length:Nat):Int)<cs.length:=by omega
    generalize (cs[j % cs.length]'hq)=c at cc hcb;generalize hQ:j % cs.length=q at *;clear hcell HC HBD hQ
    by_cases hc0:c≤0
    ·have hmin:min (1:Int) (s2.size:Int)=1:=by omega
     have hx2:(s2.extract 1 s2.size).size=s2.size - 1:=by rw[ByteArray.size_extract];omega
     have HCat':Hid (catP ((ps++[⟨#[]⟩])++[s2.extract 0 1])++(s2.extract 1 s2.size).data.toList=s.data.toList):=by
      show _=_;rw[catP_snoc,catP_snoc,List.append_assoc,← extract_split];simpa using hcat.out
     have hone:(1:Int)≤s2.size:=by omega
     clear hcat
     go_wp2_with (at_builtin;first
      | (refine wpList_append_own _ rfl (.tmp 26) (.tmp 27) 26 rfl w.heap.size 9 i9 (.string ⟨#[]⟩) 1 16 Tryz.underlying26 hi9 h90 h91 h92 rfl (by decide) _ _ _ rfl (hP.out.own.alloc _) ⟨wr.heap.size,0,none⟩ 1 1 [.string ⟨#[]⟩] rfl rfl (cell_one_at _ _ _ _ rfl) (fun x hx=>by simp at hx;subst hx;rfl) (by unfold maxLen;first | omega | (simp;omega)) (by first | omega | (simp;omega)) (by simp;omega) ?_;intro v3 w3 hown3 hgrow3 hnil3;have hP3:=hP.out.push ⟨#[]⟩ (by omega) hown3 hgrow3;obtain ⟨g3,cap3,rfl,hcap3⟩:=own_form hown3 (by first | omega | simp);have HP3:=hide hP3;have hsz3:=hP3.bel.size;clear hown3 hgrow3 hnil3 hP3)
      | (refine wpList_append_own _ rfl (.tmp 33) (.tmp 37) 26 rfl w.heap.size 9 i9 (.string ⟨#[]⟩) 1 16 Tryz.underlying26 hi9 h90 h91 h92 rfl (by decide) _ _ _ rfl (HP3.out.own.alloc _) ⟨w3.heap.size,0,none⟩ 1 1 [.string (s2.extract 0 1)] rfl rfl (cell_one_at _ _ _ _ rfl) (fun x hx=>by simp at hx;subst hx;rfl) (by unfold maxLen;first | omega | (simp;omega)) (by first | omega | (simp;omega)) (by simp;omega) ?_;intro v4 w4 hown4 hgrow4 hnil4;have hP4:=HP3.out.push (s2.extract 0 1) (by omega) hown4 hgrow4;obtain ⟨g4,cap4,rfl,hcap4⟩:=own_form hown4 (by first | omega | simp);have HP4:=hide hP4;have hsz4:=hP4.bel.size;clear hown4 hgrow4 hnil4 hP4))
     go_roundw
     case rel=>exact ⟨s2.extract 1 s2.size,(ps++[⟨#[]⟩])++[s2.extract 0 1],some ⟨g4,0,none⟩,cap4,j+1,rfl,by simp,by go_num,by rw[hx2];omega,by rw[hx2];simp;omega,HCat',by simpa using HP4⟩
     case measure=>simp only[strLen];omega
    ·obtain ⟨m,rfl⟩:∃m:Nat,c=(m:Int):=⟨c.toNat,by omega⟩
     by_cases hm:m<s2.size
     ·have hmin:min (m:Int) (s2.size:Int)=m:=by omega
      have hx2:(s2.extract m s2.size).size=s2.size - m:=by rw[ByteArray.size_extract];omega
      have HCat':Hid (catP (ps++[s2.extract 0 m])++(s2.extract m s2.size).data.toList=s.data.toList):=by
       show _=_;rw[catP_snoc,List.append_assoc,← extract_split];exact hcat.out
      have hmz:(m:Int)≤s2.size:=by omega
      clear hcat
      go_wp2_with (at_builtin;(refine wpList_append_own _ rfl (.tmp 33) (.tmp 37) 26 rfl w.heap.size 9 i9 (.string ⟨#[]⟩) 1 16 Tryz.underlying26 hi9 h90 h91 h92 rfl (by decide) _ _ _ rfl (hP.out.own.alloc _) ⟨wr.heap.size,0,none⟩ 1 1 [.string (s2.extract 0 m)] rfl rfl (cell_one_at _ _ _ _ rfl) (fun x hx=>by simp at hx;subst hx;rfl) (by unfold maxLen;first | omega | (simp;omega)) (by first | omega | (simp;omega)) (by simp;omega) ?_;intro v4 w4 hown4 hgrow4 hnil4;have hP4:=hP.out.push (s2.extract 0 m) (by omega) hown4 hgrow4;obtain ⟨g4,cap4,rfl,hcap4⟩:=own_form hown4 (by first | omega | simp);have HP4:=hide hP4;have hsz4:=hP4.bel.size;clear hown4 hgrow4 hnil4 hP4))
      go_roundw
      case rel=>exact ⟨s2.extract m s2.size,ps++[s2.extract 0 m],some ⟨g4,0,none⟩,cap4,j+1,rfl,by simp,by go_num,by rw[hx2];omega,by rw[hx2];simp;omega,HCat',by simpa using HP4⟩
      case measure=>simp only[strLen];omega
     ·have hmin:min (m:Int) (s2.size:Int)=s2.size:=by omega
      have HCat':Hid (catP (ps++[s2])=s.data.toList):=by
       show _=_;rw[catP_snoc];exact hcat.out
      clear hcat
      go_wp2_with (at_builtin;(refine wpList_append_own _ rfl (.tmp 33) (.tmp 37) 26 rfl w.heap.size 9 i9 (.string ⟨#[]⟩) 1 16 Tryz.underlying26 hi9 h90 h91 h92 rfl (by decide) _ _ _ rfl (hP.out.own.alloc _) ⟨wr.heap.size,0,none⟩ 1 1 [.string s2] rfl rfl (cell_one_at _ _ _ _ rfl) (fun x hx=>by simp at hx;subst hx;rfl) (by unfold maxLen;first | omega | (simp;omega)) (by first | omega | (simp;omega)) (by simp;omega) ?_;intro v3 w3 hown3 hgrow3 hnil3;have hP3:=hP.out.push s2 (by omega) hown3 hgrow3;obtain ⟨g3,cap3,rfl,hcap3⟩:=own_form hown3 (by first | omega | simp);have HP3:=hide hP3;have hsz3:=hP3.bel.size;clear hown3 hgrow3 hnil3 hP3))
      go_roundw
      case rel=>exact ⟨ByteArray.empty,ps++[s2],some ⟨g3,0,none⟩,cap3,j+1,rfl,by simp,by go_num,by simp;omega,by simp;omega,hide (by rw[HCat'.out];simp),by simpa using HP3⟩
      case measure=>simp[strLen];omega
end Go.Proofs.YticfcjmlphhpgaaGreatDoor
namespace Go.Proofs.YticfcjmlphhpgaaGreatDoor
open Go.RowKit Go.Maps
structure Opx where
 kind:Int
 ia:Int
 ic:Int
 s:ByteArray
 b:ByteArray
 la:Option Addr
 lc:Nat
 ns:List Nd
 ma:Option Addr
 mc:Nat
 ms:List ByteArray
 da:Option Addr
 dc:Nat
 ds:List Int
structure OpAt (w:World) (o:Opx):Prop where
 l:SliceN w (.slice o.la o.ns.length o.lc) o.ns
 m:SliceS w (.slice o.ma o.ms.length o.mc) o.ms
 mnil:∀n c,(Value.slice o.ma o.ms.length o.mc)=.slice none n c→n=0∧c=0
 ia:-9223372036854775808≤o.ia∧o.ia≤9223372036854775807
 ic:-9223372036854775808≤o.ic∧o.ic≤9223372036854775807
 d:SliceI w (.slice o.da o.ds.length o.dc) o.ds
structure OpOk (o:Opx):Prop where
 s:o.s.size≤262144
 ns:o.ns.length≤262144∧∀n∈o.ns,n.path.size≤262144∧n.data.size≤262144
 ms:o.ms.length≤262144∧∀r∈o.ms,r.size≤262144
 b:o.b.size≤262144
 ds:o.ds.length≤262144
theorem OpAt.below {w w':World} {o:Opx} (h:OpAt w o) (hb:Below w.heap.size w w'):OpAt w' o:=⟨h.l.below hb,h.m.below hb,h.mnil,h.ia,h.ic,h.d.below hb⟩
theorem eight_new (w:World) (a0 a1 a2 a3 a4 a5 a6 a7:Value) (t:TypeId) (W:World) (hW:w.alloc (.cells #[a0,a1,a2,a3,a4,a5,a6,a7] t)=W):W.cell? ⟨w.heap.size,0,none⟩=some a0∧W.cell? ⟨w.heap.size,1,none⟩=some a1∧W.cell? ⟨w.heap.size,2,none⟩=some a2∧W.cell? ⟨w.heap.size,3,none⟩=some a3∧W.cell? ⟨w.heap.size,4,none⟩=some a4∧W.cell? ⟨w.heap.size,5,none⟩=some a5∧W.cell? ⟨w.heap.size,6,none⟩=some a6∧W.cell? ⟨w.heap.size,7,none⟩=some a7:=by
 have hk:=block_new w (.cells #[a0,a1,a2,a3,a4,a5,a6,a7] t);rw[hW]at hk;refine ⟨?_,?_,?_,?_,?_,?_,?_,?_⟩ <;> (simp only[World.cell?,hk];rfl)
theorem own_cellsP {w:World} {B g cap:Nat} {prs:List Pr} (h:w.ownsRow B 50 2 (.slice (some ⟨g,0,none⟩) prs.length cap) prs.length (flatP prs)) (i:Nat) (hi:i<prs.length):w.cell? ⟨g,i*2,none⟩=some (.pointer (some ⟨prs[i].q,0,none⟩))∧w.cell? ⟨g,i*2+1,none⟩=some (.pointer (some ⟨prs[i].r,0,none⟩)):=by
 obtain ⟨h1,h2⟩:=flatP_get prs i hi;exact ⟨(h.cellAt _ (by omega)).trans h1,(h.cellAt _ (by omega)).trans h2⟩
theorem fin_one {B wb:Nat} {prs:List Pr} {bs:List ByteArray} {ls ts:List (Value × Nat)} {vss vbs vls vts:Value} {w W:World} (h:WR (fun _=>False) B wb prs bs ls ts vss vbs vls vts w) (hBw:B≤w.heap.size) (hb:Below w.heap.size w W) (v2:Value) (n2:Nat) (xs:List Value) (h2:W.ownsRow w.heap.size 9 1 v2 n2 xs) (hn2:n2≤2000000) (hl:ls.length≤900000) :
  Calls Tryz.prog 22 #[.pointer (some ⟨wb,0,none⟩),v2] W fun e w9=>e=.returned (.tuple #[])∧LStep B wb prs bs ls ts w w9:=by
 have hA:WR (fun k=>v2.ownBlock=some k) B wb prs bs ls ts vss vbs vls vts W:=(h.avoid (A':=fun k=>v2.ownBlock=some k) (fun k hk=>(h2.lt k hk).1)).below hb;refine (mineW (A':=fun _=>False) hA v2 h2 hBw hb.size (fun g hg=>hg) (fun k hk=>hk.elim) hn2 (by omega)).mono ?_;rintro e w9 ⟨rfl,ls',vls',h9,hls,hk9⟩;exact ⟨rfl,prs,ls',ts,vss,vbs,vls',vts,h9,by omega,by omega,by omega,(hb.mono hBw).trans (hA.belM h2 hBw (Nat.le_trans hBw hb.size) hk9)⟩
theorem LStep.still {B wb:Nat} {prs:List Pr} {bs:List ByteArray} {ls ts:List (Value × Nat)} {vss vbs vls vts:Value} {w W:World} (h:WR (fun _=>False) B wb prs bs ls ts vss vbs vls vts w) (hBw:B≤w.heap.size) (hb:Below w.heap.size w W):LStep B wb prs bs ls ts w W:=⟨prs,ls,ts,vss,vbs,vls,vts,h.below hb,by omega,by omega,by omega,hb.mono hBw⟩
theorem step_paths {B wb:Nat} {prs:List Pr} {bs:List ByteArray} {ls ts:List (Value × Nat)} {vss vbs vls vts:Value} {w:World} (h:WR (fun _=>False) B wb prs bs ls ts vss vbs vls vts w) (o:Opx) (hA:OpAt w o) (hO:OpOk o) (hT:Lib.Utf8Tabs 0 1 w) (hpl:prs.length≤900000) (hl:ls.length≤900000) (_htl:ts.length≤900000) (hBw:B≤w.heap.size) (hpos:0<prs.length) :
  Calls Tryz.prog 15 #[.pointer (some ⟨wb,0,none⟩),.agg #[.int .i64 4,.int .i64 o.ia,.int .i64 o.ic,.string o.s,.string o.b,.slice o.la o.ns.length o.lc,.slice o.ma o.ms.length o.mc,.slice o.da o.ds.length o.dc]] w fun e w'=>e=.returned (.bool true)∧LStep B wb prs bs ls ts w w':=by
 have hi:=pickN_lt o.ia hpos;obtain ⟨W,hW⟩:∃W,w.alloc (.cells #[.int .i64 4,.int .i64 o.ia,.int .i64 o.ic,.string o.s,.string o.b,.slice o.la o.ns.length o.lc,.slice o.ma o.ms.length o.mc,.slice o.da o.ds.length o.dc] 29)=W:=⟨_,rfl⟩;have hbW:Below w.heap.size w W:=by rw[← hW];exact belA (Below.refl _ w) _
 obtain ⟨o0,o1,o2,o3,o4,o5,o6,o7⟩:=eight_new w _ _ _ _ _ _ _ _ 29 W hW;have hWR:=h.below hbW;have cK:=fun V=>pick_det o.ia prs.length hpos (by omega) hA.ia V
 obtain ⟨g,cap,hvs,_⟩:=own_form hWR.rss hpos;have s0:=hWR.wbk.cell.1;rw[hvs]at s0;have hrow:=hWR.rss;rw[hvs]at hrow;obtain ⟨p0,p1⟩:=own_cellsP hrow (pickN o.ia prs.length) hi;have hnz:((prs.length:Int) == 0)=false:=beq_eq_false_iff_ne.2 (by omega);have H:=hide h;have HA:=hide hA;have HO:=hide hO;have HT:=hide hT;have HBW:=hide hbW;have HRG:=hide (And.intro s0 (And.intro o1 (And.intro p0 (And.intro p1 cK))));obtain ⟨P,hP⟩:∃P,prs[pickN o.ia prs.length]=P:=⟨_,rfl⟩;have hPm:P∈prs:=by rw[← hP];exact List.getElem_mem _
 have HPM:=hide hPm;rw[hP]at HRG;clear h hA hO hT hbW hWR cK hrow o1 o2 o4 o7 p0 p1 hvs hPm;go_enter Tryz.func15,Tryz.ntmps15;go_wp2;refine wp_mono (reg15_10 wb w.heap.size g prs.length cap (pickN o.ia prs.length) P.q P.r o.ia W hi HRG.out.1 HRG.out.2.1 HRG.out.2.2.1 HRG.out.2.2.2.1 HRG.out.2.2.2.2 _ _ _ _ _ _ _ _ _ _ _ _ _ _ _ _ _ _ _ _ _ _ _ _ _ _ _ _ _ _ _ _ _ _ _ _ _ _ _ _ _ _ _ _ _ _ _ _ _ _ _ _ _ _ _ _ _ _ _ _ _ _ _ _ _ _ _ _ _ _ _ _ _ _ _ _ _ _ _ _ _ _ _ _ _ _ _ _ _ _ _ _ _ _ _ _ _ _ _ _ _ _ _ _ _ _ _ _ _ _ _ _ _ _ _ _ _ _ _ _ _ _ _ _ _ _ _ _ _ _ _ _ _ _ _ _ _ _ _ _ _ _ _ _ _ _ _ _ _ _ _ _ _ _ _ _ _ _ _ _ _ _ _ _ _ _ _ _ _ _ _ _ _ _ _ _ _ _ _ _ _ _ _ _ _ _ _ _ _ _ _ _ _ _ _ _ _ _ _ _ _ _ _ _ _ _ _ _ _ _ _ _ _ _ _ _ _ _ _ _ _ _ _ _ _ _ _ _ _ _ _ _ _ _ _ _ _ _ _ _ _ _ _ _ _ _ _ _ _ _ _ _ _ _ _ _ _ _ ) (reg_then ?_);rintro a w2 ⟨⟨v58,v59,v60,v61,v62,v63,v64,v65,v66,v67,v68,v69,v70,v71,rfl⟩,hb2,hp2⟩;have HB2:=hide (HBW.out.trans (hb2.mono HBW.out.size));have q0:w2.cell? ⟨W.heap.size,0,none⟩=some (.pointer (some ⟨P.q,0,none⟩)):=by simp[World.cell?,hp2]
 have q1:w2.cell? ⟨W.heap.size,1,none⟩=some (.pointer (some ⟨P.r,0,none⟩)):=by simp[World.cell?,hp2]
 have x0:=cellB hb2 o0;have x3:=cellB hb2 o3;have x5:=cellB hb2 o5;have x6:=cellB hb2 o6;clear hp2 hb2 o0 o3 o5 o6 HRG hW hnz s0 HBW;have hPO:=H.out.pr P HPM.out;have hlen:=hPO.ok.ok.closed.few;have cX:=hide (narPaths_any P.q P.b P.S w2 (hPO.n.st.below HB2.out) hPO.ok.ok.closed.rise (by omega));have cM:Hid (∀V,Below w.heap.size w V→Calls Tryz.prog 26 #[.pointer (some ⟨P.r,0,none⟩)] V fun e w'=>∃v,e=.returned v∧w'.ownsRow V.heap.size 9 1 v P.S.length ((P.S.map (·.path)).map Value.string)∧Below V.heap.size V w'):=hide fun V hV=>rPaths_any P.r P.S V (hPO.r.st.below hV) (by omega)
 clear hPO
 go_wp2_with fail
 refine cX.out.mono ?_;rintro e w3 ⟨v,rfl,hv,hb3⟩;have y1:=cellB hb3 q1;have HB3:=hide (HB2.out.trans (hb3.mono HB2.out.size));have HV:=hide (own_base hv HB2.out.size);obtain ⟨va,vc,rfl,_⟩:=own_sl hv;clear hv hb3 cX q0 q1 x0 x3 x5 x6
 go_wp2_with fail
 refine (cM.out _ HB3.out).mono ?_;rintro e w4 ⟨v4,rfl,hv4,hb4⟩;have cS:=hide (lsameText_any _ _ (P.S.map (·.path)) (P.S.map (·.path)) w4 (own_strs (by rw[List.length_map];exact own_below HV.out hb4)) (own_strs (by rw[List.length_map];exact hv4)) (by rw[List.length_map];omega) (by rw[List.length_map];omega));have hee:eqL (P.S.map (·.path)) (P.S.map (·.path))=true:=decide_eq_true rfl;rw[hee]at cS;have HB4:=hide (HB3.out.trans (hb4.mono HB3.out.size));have HV4:=hide (own_below HV.out hb4);obtain ⟨va4,vc4,rfl,_⟩:=own_sl hv4;clear hv4 hb4 cM y1 hee HV HB3
 go_wp2_with fail
 refine cS.out.mono ?_;rintro e w5 ⟨rfl,hb5⟩;have CF:=hide (fin_one H.out hBw (HB4.out.trans (hb5.mono HB4.out.size)) _ _ _ (own_below HV4.out hb5) (by omega) hl);clear hb5 cS
 go_wp2_with fail
 refine CF.out.mono ?_;rintro e w6 ⟨rfl,hst⟩;have HST:=hide hst;clear hst CF;go_wp2;go_ret;exact ⟨rfl,HST.out⟩
theorem step_closure {B wb:Nat} {prs:List Pr} {bs:List ByteArray} {ls ts:List (Value × Nat)} {vss vbs vls vts:Value} {w:World} (h:WR (fun _=>False) B wb prs bs ls ts vss vbs vls vts w) (o:Opx) (hA:OpAt w o) (hO:OpOk o) (hT:Lib.Utf8Tabs 0 1 w) (hpl:prs.length≤900000) (hl:ls.length≤900000) (_htl:ts.length≤900000) (hBw:B≤w.heap.size) (hpos:0<prs.length) :
  Calls Tryz.prog 15 #[.pointer (some ⟨wb,0,none⟩),.agg #[.int .i64 5,.int .i64 o.ia,.int .i64 o.ic,.string o.s,.string o.b,.slice o.la o.ns.length o.lc,.slice o.ma o.ms.length o.mc,.slice o.da o.ds.length o.dc]] w fun e w'=>e=.returned (.bool true)∧LStep B wb prs bs ls ts w w':=by
 have hi:=pickN_lt o.ia hpos;obtain ⟨W,hW⟩:∃W,w.alloc (.cells #[.int .i64 5,.int .i64 o.ia,.int .i64 o.ic,.string o.s,.string o.b,.slice o.la o.ns.length o.lc,.slice o.ma o.ms.length o.mc,.slice o.da o.ds.length o.dc] 29)=W:=⟨_,rfl⟩;have hbW:Below w.heap.size w W:=by rw[← hW];exact belA (Below.refl _ w) _
 obtain ⟨o0,o1,o2,o3,o4,o5,o6,o7⟩:=eight_new w _ _ _ _ _ _ _ _ 29 W hW;have hWR:=h.below hbW;have cK:=fun V=>pick_det o.ia prs.length hpos (by omega) hA.ia V
 obtain ⟨g,cap,hvs,_⟩:=own_form hWR.rss hpos;have s0:=hWR.wbk.cell.1;rw[hvs]at s0;have hrow:=hWR.rss;rw[hvs]at hrow;obtain ⟨p0,p1⟩:=own_cellsP hrow (pickN o.ia prs.length) hi;have hnz:((prs.length:Int) == 0)=false:=beq_eq_false_iff_ne.2 (by omega);have H:=hide h;have HA:=hide hA;have HO:=hide hO;have HT:=hide hT;have HBW:=hide hbW;have HRG:=hide (And.intro s0 (And.intro o1 (And.intro p0 (And.intro p1 cK))));obtain ⟨P,hP⟩:∃P,prs[pickN o.ia prs.length]=P:=⟨_,rfl⟩;have hPm:P∈prs:=by rw[← hP];exact List.getElem_mem _
 have HPM:=hide hPm;rw[hP]at HRG;clear h hA hO hT hbW hWR cK hrow o1 o2 o4 o7 p0 p1 hvs hPm;go_enter Tryz.func15,Tryz.ntmps15;go_wp2;refine wp_mono (reg15_10 wb w.heap.size g prs.length cap (pickN o.ia prs.length) P.q P.r o.ia W hi HRG.out.1 HRG.out.2.1 HRG.out.2.2.1 HRG.out.2.2.2.1 HRG.out.2.2.2.2 _ _ _ _ _ _ _ _ _ _ _ _ _ _ _ _ _ _ _ _ _ _ _ _ _ _ _ _ _ _ _ _ _ _ _ _ _ _ _ _ _ _ _ _ _ _ _ _ _ _ _ _ _ _ _ _ _ _ _ _ _ _ _ _ _ _ _ _ _ _ _ _ _ _ _ _ _ _ _ _ _ _ _ _ _ _ _ _ _ _ _ _ _ _ _ _ _ _ _ _ _ _ _ _ _ _ _ _ _ _ _ _ _ _ _ _ _ _ _ _ _ _ _ _ _ _ _ _ _ _ _ _ _ _ _ _ _ _ _ _ _ _ _ _ _ _ _ _ _ _ _ _ _ _ _ _ _ _ _ _ _ _ _ _ _ _ _ _ _ _ _ _ _ _ _ _ _ _ _ _ _ _ _ _ _ _ _ _ _ _ _ _ _ _ _ _ _ _ _ _ _ _ _ _ _ _ _ _ _ _ _ _ _ _ _ _ _ _ _ _ _ _ _ _ _ _ _ _ _ _ _ _ _ _ _ _ _ _ _ _ _ _ _ _ _ _ _ _ _ _ _ _ _ _ _ _ _ _ ) (reg_then ?_);rintro a w2 ⟨⟨v58,v59,v60,v61,v62,v63,v64,v65,v66,v67,v68,v69,v70,v71,rfl⟩,hb2,hp2⟩;have HB2:=hide (HBW.out.trans (hb2.mono HBW.out.size));have q0:w2.cell? ⟨W.heap.size,0,none⟩=some (.pointer (some ⟨P.q,0,none⟩)):=by simp[World.cell?,hp2]
 have q1:w2.cell? ⟨W.heap.size,1,none⟩=some (.pointer (some ⟨P.r,0,none⟩)):=by simp[World.cell?,hp2]
 have x0:=cellB hb2 o0;have x3:=cellB hb2 o3;have x5:=cellB hb2 o5;have x6:=cellB hb2 o6;clear hp2 hb2 o0 o3 o5 o6 HRG hW hnz s0 HBW;have hPO:=H.out.pr P HPM.out;have hfew:=hPO.ok.ok.closed.few;have hml:=HO.out.ms.1;obtain ⟨er,her⟩:∃er:Int,(if lackR P.S o.ms=true then 15 else 0)=er:=⟨_,rfl⟩;have cX:=hide (narClosure_any P.q P.b P.S _ o.ms w2 (hPO.n.st.below HB2.out) hPO.ok.ok.closed (HA.out.m.below HB2.out) (by omega) (fun r hr=>by have:=HO.out.ms.2 r hr;omega));have cM:=hide (fun V (hV:Below w.heap.size w V)=>rClosure_any P.r P.S _ o.ms V (hPO.r.st.below hV) hPO.ok.ok.closed (HA.out.m.below hV) (by omega));rw[her]at cX cM;have HLN:Hid (∀out,ClosR P.S o.ms out→out.length≤10):=hide fun out ho=>by
  unfold ClosR at ho
  split at ho
  ·rw[ho];simp
  ·have:=ho.1.len;omega
 clear hPO her
 go_wp2_with fail
 refine cX.out.mono ?_;rintro e w3 ⟨v,out,rfl,hv,hF,hb3⟩;have y1:=cellB hb3 q1;have z6:=cellB hb3 x6;have HB3:=hide (HB2.out.trans (hb3.mono HB2.out.size));have HV:=hide (own_base hv HB2.out.size);have hol:=HLN.out _ hF;have HF:=hide hF;obtain ⟨va,vc,rfl,_⟩:=own_sl hv;clear hv hb3 cX q0 q1 x0 x3 x5 x6 hF
 go_wp2_with fail
 refine (cM.out _ HB3.out).mono ?_;rintro e w4 ⟨v4,out4,rfl,hv4,hF4,hb4⟩;have hoo:out4=out:=hF4.uniq HF.out;subst hoo;have cS:=hide (lsameText_any _ _ out4 out4 w4 (own_strs (own_below HV.out hb4)) (own_strs hv4) (by omega) (by omega));have hee:eqL out4 out4=true:=decide_eq_true rfl;rw[hee]at cS;have HB4:=hide (HB3.out.trans (hb4.mono HB3.out.size));have HV4:=hide (own_below HV.out hb4);obtain ⟨va4,vc4,rfl,_⟩:=own_sl hv4;clear hv4 hb4 cM y1 z6 hee HV HB3 hF4 HF
 go_wp2_with fail
 refine cS.out.mono ?_;rintro e w5 ⟨rfl,hb5⟩;have CF:=hide (fin_one H.out hBw (HB4.out.trans (hb5.mono HB4.out.size)) _ _ _ (own_below HV4.out hb5) (by omega) hl);clear hb5 cS
 go_wp2_with fail
 refine CF.out.mono ?_;rintro e w6 ⟨rfl,hst⟩;have HST:=hide hst;clear hst CF;go_wp2;go_ret;exact ⟨rfl,HST.out⟩
theorem step_get {B wb:Nat} {prs:List Pr} {bs:List ByteArray} {ls ts:List (Value × Nat)} {vss vbs vls vts:Value} {w:World} (h:WR (fun _=>False) B wb prs bs ls ts vss vbs vls vts w) (o:Opx) (hA:OpAt w o) (hO:OpOk o) (hT:Lib.Utf8Tabs 0 1 w) (hpl:prs.length≤900000) (hl:ls.length≤900000) (htl:ts.length≤900000) (hBw:B≤w.heap.size) (hpos:0<prs.length) :
  Calls Tryz.prog 15 #[.pointer (some ⟨wb,0,none⟩),.agg #[.int .i64 3,.int .i64 o.ia,.int .i64 o.ic,.string o.s,.string o.b,.slice o.la o.ns.length o.lc,.slice o.ma o.ms.length o.mc,.slice o.da o.ds.length o.dc]] w fun e w'=>e=.returned (.bool true)∧LStep B wb prs bs ls ts w w':=by
 have hi:=pickN_lt o.ia hpos;obtain ⟨W,hW⟩:∃W,w.alloc (.cells #[.int .i64 3,.int .i64 o.ia,.int .i64 o.ic,.string o.s,.string o.b,.slice o.la o.ns.length o.lc,.slice o.ma o.ms.length o.mc,.slice o.da o.ds.length o.dc] 29)=W:=⟨_,rfl⟩;have hbW:Below w.heap.size w W:=by rw[← hW];exact belA (Below.refl _ w) _
 obtain ⟨o0,o1,o2,o3,o4,o5,o6,o7⟩:=eight_new w _ _ _ _ _ _ _ _ 29 W hW;have hWR:=h.below hbW;have cK:=fun V=>pick_det o.ia prs.length hpos (by omega) hA.ia V
 obtain ⟨g,cap,hvs,_⟩:=own_form hWR.rss hpos;have s0:=hWR.wbk.cell.1;rw[hvs]at s0;have hrow:=hWR.rss;rw[hvs]at hrow;obtain ⟨p0,p1⟩:=own_cellsP hrow (pickN o.ia prs.length) hi;have hnz:((prs.length:Int) == 0)=false:=beq_eq_false_iff_ne.2 (by omega);have H:=hide h;have HA:=hide hA;have HO:=hide hO;have HT:=hide hT;have HBW:=hide hbW;have HRG:=hide (And.intro s0 (And.intro o1 (And.intro p0 (And.intro p1 cK))));obtain ⟨P,hP⟩:∃P,prs[pickN o.ia prs.length]=P:=⟨_,rfl⟩;have hPm:P∈prs:=by rw[← hP];exact List.getElem_mem _
 have HPM:=hide hPm;rw[hP]at HRG;clear h hA hO hT hbW hWR cK hrow o1 o2 o4 o7 p0 p1 hvs hPm;go_enter Tryz.func15,Tryz.ntmps15;go_wp2;refine wp_mono (reg15_10 wb w.heap.size g prs.length cap (pickN o.ia prs.length) P.q P.r o.ia W hi HRG.out.1 HRG.out.2.1 HRG.out.2.2.1 HRG.out.2.2.2.1 HRG.out.2.2.2.2 _ _ _ _ _ _ _ _ _ _ _ _ _ _ _ _ _ _ _ _ _ _ _ _ _ _ _ _ _ _ _ _ _ _ _ _ _ _ _ _ _ _ _ _ _ _ _ _ _ _ _ _ _ _ _ _ _ _ _ _ _ _ _ _ _ _ _ _ _ _ _ _ _ _ _ _ _ _ _ _ _ _ _ _ _ _ _ _ _ _ _ _ _ _ _ _ _ _ _ _ _ _ _ _ _ _ _ _ _ _ _ _ _ _ _ _ _ _ _ _ _ _ _ _ _ _ _ _ _ _ _ _ _ _ _ _ _ _ _ _ _ _ _ _ _ _ _ _ _ _ _ _ _ _ _ _ _ _ _ _ _ _ _ _ _ _ _ _ _ _ _ _ _ _ _ _ _ _ _ _ _ _ _ _ _ _ _ _ _ _ _ _ _ _ _ _ _ _ _ _ _ _ _ _ _ _ _ _ _ _ _ _ _ _ _ _ _ _ _ _ _ _ _ _ _ _ _ _ _ _ _ _ _ _ _ _ _ _ _ _ _ _ _ _ _ _ _ _ _ _ _ _ _ _ _ _ _ _ ) (reg_then ?_);rintro a w2 ⟨⟨v58,v59,v60,v61,v62,v63,v64,v65,v66,v67,v68,v69,v70,v71,rfl⟩,hb2,hp2⟩;have HB2:=hide (HBW.out.trans (hb2.mono HBW.out.size));have q0:w2.cell? ⟨W.heap.size,0,none⟩=some (.pointer (some ⟨P.q,0,none⟩)):=by simp[World.cell?,hp2]
 have q1:w2.cell? ⟨W.heap.size,1,none⟩=some (.pointer (some ⟨P.r,0,none⟩)):=by simp[World.cell?,hp2]
 have x0:=cellB hb2 o0;have x3:=cellB hb2 o3;have x5:=cellB hb2 o5;have x6:=cellB hb2 o6;clear hp2 hb2 o0 o3 o5 o6 HRG hW hnz s0 HBW;have cG:=hide (get_any (H.out.below HB2.out) (pickN o.ia prs.length) hi o.s (tabsB (tabs2 HT.out) HT.out HB2.out) (by have:=HO.out.s;omega) hl htl (Nat.le_trans hBw HB2.out.size));rw[hP]at cG
 go_wp2_with fail
 refine cG.out.mono ?_;rintro e w3 ⟨rfl,prs',ls',ts',vss',vbs',vls',vts',h1,h2,h3,h4,h5⟩;have HST:Hid (LStep B wb prs bs ls ts w w3):=hide ⟨prs',ls',ts',vss',vbs',vls',vts',h1,h2,h3,h4,(HB2.out.mono hBw).trans h5⟩;clear h1 h2 h3 h4 h5 cG;go_wp2;go_ret;exact ⟨rfl,HST.out⟩
theorem step_none {B wb:Nat} {prs:List Pr} {bs:List ByteArray} {ls ts:List (Value × Nat)} {vss vbs vls vts:Value} {w:World} (h:WR (fun _=>False) B wb prs bs ls ts vss vbs vls vts w) (o:Opx) (hA:OpAt w o) (hO:OpOk o) (hT:Lib.Utf8Tabs 0 1 w) (hpl:prs.length≤900000) (_hl:ls.length≤900000) (_htl:ts.length≤900000) (hBw:B≤w.heap.size) (hpos:0<prs.length) (k:Int) (hk:k≠1∧k≠2∧k≠3∧k≠4∧k≠5∧k≠6∧k≠7) :
  Calls Tryz.prog 15 #[.pointer (some ⟨wb,0,none⟩),.agg #[.int .i64 k,.int .i64 o.ia,.int .i64 o.ic,.string o.s,.string o.b,.slice o.la o.ns.length o.lc,.slice o.ma o.ms.length o.mc,.slice o.da o.ds.length o.dc]] w fun e w'=>e=.returned (.bool true)∧LStep B wb prs bs ls ts w w':=by
 obtain ⟨hk1,hk2,hk3,hk4,hk5,hk6,hk7⟩:=hk;have e1:(k == 1)=false:=beq_eq_false_iff_ne.2 hk1;have e2:(k == 2)=false:=beq_eq_false_iff_ne.2 hk2;have e3:(k == 3)=false:=beq_eq_false_iff_ne.2 hk3;have e4:(k == 4)=false:=beq_eq_false_iff_ne.2 hk4;have e5:(k == 5)=false:=beq_eq_false_iff_ne.2 hk5;have e6:(k == 6)=false:=beq_eq_false_iff_ne.2 hk6;have e7:(k == 7)=false:=beq_eq_false_iff_ne.2 hk7;clear hk1 hk2 hk3 hk4 hk5 hk6 hk7;have hi:=pickN_lt o.ia hpos;obtain ⟨W,hW⟩:∃W,w.alloc (.cells #[.int .i64 k,.int .i64 o.ia,.int .i64 o.ic,.string o.s,.string o.b,.slice o.la o.ns.length o.lc,.slice o.ma o.ms.length o.mc,.slice o.da o.ds.length o.dc] 29)=W:=⟨_,rfl⟩;have hbW:Below w.heap.size w W:=by rw[← hW];exact belA (Below.refl _ w) _
 obtain ⟨o0,o1,o2,o3,o4,o5,o6,o7⟩:=eight_new w _ _ _ _ _ _ _ _ 29 W hW;have hWR:=h.below hbW;have cK:=fun V=>pick_det o.ia prs.length hpos (by omega) hA.ia V
 obtain ⟨g,cap,hvs,_⟩:=own_form hWR.rss hpos;have s0:=hWR.wbk.cell.1;rw[hvs]at s0;have hrow:=hWR.rss;rw[hvs]at hrow;obtain ⟨p0,p1⟩:=own_cellsP hrow (pickN o.ia prs.length) hi;have hnz:((prs.length:Int) == 0)=false:=beq_eq_false_iff_ne.2 (by omega);have H:=hide h;have HA:=hide hA;have HO:=hide hO;have HT:=hide hT;have HBW:=hide hbW;have HRG:=hide (And.intro s0 (And.intro o1 (And.intro p0 (And.intro p1 cK))));obtain ⟨P,hP⟩:∃P,prs[pickN o.ia prs.length]=P:=⟨_,rfl⟩;have hPm:P∈prs:=by rw[← hP];exact List.getElem_mem _
 have HPM:=hide hPm;rw[hP]at HRG;clear h hA hO hT hbW hWR cK hrow o1 o2 o4 o7 p0 p1 hvs hPm;go_enter Tryz.func15,Tryz.ntmps15;go_wp2;refine wp_mono (reg15_10 wb w.heap.size g prs.length cap (pickN o.ia prs.length) P.q P.r o.ia W hi HRG.out.1 HRG.out.2.1 HRG.out.2.2.1 HRG.out.2.2.2.1 HRG.out.2.2.2.2 _ _ _ _ _ _ _ _ _ _ _ _ _ _ _ _ _ _ _ _ _ _ _ _ _ _ _ _ _ _ _ _ _ _ _ _ _ _ _ _ _ _ _ _ _ _ _ _ _ _ _ _ _ _ _ _ _ _ _ _ _ _ _ _ _ _ _ _ _ _ _ _ _ _ _ _ _ _ _ _ _ _ _ _ _ _ _ _ _ _ _ _ _ _ _ _ _ _ _ _ _ _ _ _ _ _ _ _ _ _ _ _ _ _ _ _ _ _ _ _ _ _ _ _ _ _ _ _ _ _ _ _ _ _ _ _ _ _ _ _ _ _ _ _ _ _ _ _ _ _ _ _ _ _ _ _ _ _ _ _ _ _ _ _ _ _ _ _ _ _ _ _ _ _ _ _ _ _ _ _ _ _ _ _ _ _ _ _ _ _ _ _ _ _ _ _ _ _ _ _ _ _ _ _ _ _ _ _ _ _ _ _ _ _ _ _ _ _ _ _ _ _ _ _ _ _ _ _ _ _ _ _ _ _ _ _ _ _ _ _ _ _ _ _ _ _ _ _ _ _ _ _ _ _ _ _ _ _ ) (reg_then ?_);rintro a w2 ⟨⟨v58,v59,v60,v61,v62,v63,v64,v65,v66,v67,v68,v69,v70,v71,rfl⟩,hb2,hp2⟩;have HB2:=hide (HBW.out.trans (hb2.mono HBW.out.size));have q0:w2.cell? ⟨W.heap.size,0,none⟩=some (.pointer (some ⟨P.q,0,none⟩)):=by simp[World.cell?,hp2]
 have q1:w2.cell? ⟨W.heap.size,1,none⟩=some (.pointer (some ⟨P.r,0,none⟩)):=by simp[World.cell?,hp2]
 have x0:=cellB hb2 o0;have x3:=cellB hb2 o3;have x5:=cellB hb2 o5;have x6:=cellB hb2 o6;clear hp2 hb2 o0 o3 o5 o6 HRG hW hnz s0 HBW;go_wp2;go_ret;exact ⟨rfl,LStep.still H.out hBw HB2.out⟩
end Go.Proofs.YticfcjmlphhpgaaGreatDoor
