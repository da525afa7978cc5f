import Derived.Test.YticfcjmlphhpgaaGreatDoorA01
import Derived.Test.YticfcjmlphhpgaaGreatDoorA02
import Derived.Test.YticfcjmlphhpgaaGreatDoorA04
namespace Go.Proofs.YticfcjmlphhpgaaGreatDoor
open Go.RowKit
abbrev Bs:=List UInt8
def bl (a b:Bs):Bool:=Op.bytesLess a b
theorem bl_nil (a:Bs):bl a []=false:=by cases a <;> rfl
theorem bl_cons (a b:UInt8) (x y:Bs):bl (a :: x) (b :: y)=(decide (a<b) || (a == b && bl x y)):=rfl
theorem bl_irr:∀a:Bs,bl a a=false
 | []=>rfl
 | a :: x=>by rw[bl_cons,bl_irr x];simp
theorem bl_tri:∀a b:Bs,bl a b=true∨a=b∨bl b a=true
 | [],[]=>.inr (.inl rfl)
 | [],b :: y=>.inl rfl
 | a :: x,[]=>.inr (.inr rfl)
 | a :: x,b :: y=>by
  rcases Nat.lt_trichotomy a.toNat b.toNat with h | h | h
  ·left;rw[bl_cons];simp[UInt8.lt_iff_toNat_lt,h]
  ·have e:a=b:=UInt8.toNat_inj.1 h;subst e;rcases bl_tri x y with h1 | h1 | h1
   ·left;rw[bl_cons,h1];simp
   ·right;left;rw[h1]
   ·right;right;rw[bl_cons,h1];simp
  ·right;right;rw[bl_cons];simp[UInt8.lt_iff_toNat_lt,h]
theorem bl_trans:∀a b c:Bs,bl a b=true→bl b c=true→bl a c=true
 | [],[],c,h,_=>by cases h
 | _,_,[],_,h=>by rw[bl_nil]at h;cases h
 | [],b :: y,c :: z,_,_=>rfl
 | a :: x,[],c :: z,h,_=>by cases h
 | a :: x,b :: y,c :: z,h1,h2=>by
  rw[bl_cons]at h1 h2 ⊢;simp only[Bool.or_eq_true,decide_eq_true_eq,Bool.and_eq_true,beq_iff_eq,UInt8.lt_iff_toNat_lt]at h1 h2 ⊢;rcases h1 with h1 | ⟨e1,h1⟩
  ·rcases h2 with h2 | ⟨e2,h2⟩
   ·left;omega
   ·left;rw[← e2];exact h1
  ·rcases h2 with h2 | ⟨e2,h2⟩
   ·left;rw[e1];exact h2
   ·right;exact ⟨e1.trans e2,bl_trans x y z h1 h2⟩
theorem bl_asym (a b:Bs) (h:bl a b=true):bl b a=false:=by
 cases hb:bl b a with
 | false=>rfl
 | true=>have:=bl_trans a b a h hb;rw[bl_irr]at this;cases this
theorem bl_ne (a b:Bs) (h:bl a b=true):a≠b:=fun e=>by subst e;rw[bl_irr]at h;cases h
theorem bl_empty (b:Bs) (h:b≠[]):bl [] b=true:=by cases b with | nil=>exact absurd rfl h | cons a x=>rfl
theorem not_bl (a b:Bs):(bl a b || a == b)=!(bl b a):=by
 rcases bl_tri a b with h | h | h
 ·rw[h,bl_asym a b h];rfl
 ·subst h;rw[bl_irr];simp
 ·rw[h,bl_asym b a h];have:=(bl_ne b a h).symm;simp[this]
def preL (l:Bs):Bs:=l.take (cutL l)
def namL (l:Bs):Bs:=l.drop (cutL l)
def dirL (l:Bs):Bs:=if cutL l=0 then [] else l.take (cutL l - 1)
def pin (p:Bs):Bs:=if p=[] then [] else p++[47]
theorem pin_nil:pin []=[]:=rfl
theorem pin_ne (p:Bs) (h:p≠[]):pin p=p++[47]:=by simp[pin,h]
theorem pin_length (p:Bs):p.length≤(pin p).length:=by unfold pin;split <;> simp_all
theorem split_eq (l:Bs):preL l++namL l=l:=List.take_append_drop _ _
theorem cutL_append (d n:Bs) (h:¬ (47:UInt8)∈n):cutL (d++n)=cutL d:=by
 induction d with
 | nil=>
  rw[List.nil_append];refine cutL_zero n (fun i hi e=>h (List.mem_of_getElem? e))
 | cons c t ih=>simp only[List.cons_append,cutL,ih]
theorem cutL_slash (d:Bs):cutL (d++[47])=d.length+1:=by
 refine cutL_at _ d.length (by simp) (by simp) (fun i h1 h2=>?_);simp at h2;omega
theorem cutL_pin (p:Bs):cutL (pin p)=(pin p).length:=by
 unfold pin;split
 ·rfl
 ·rw[cutL_slash];simp
theorem cutL_path (d n:Bs) (h:¬ (47:UInt8)∈n):cutL (pin d++n)=(pin d).length:=by rw[cutL_append _ _ h,cutL_pin]
theorem preL_path (d n:Bs) (h:¬ (47:UInt8)∈n):preL (pin d++n)=pin d:=by unfold preL;rw[cutL_path d n h];simp
theorem namL_path (d n:Bs) (h:¬ (47:UInt8)∈n):namL (pin d++n)=n:=by unfold namL;rw[cutL_path d n h];simp
theorem dirL_path (d n:Bs) (h:¬ (47:UInt8)∈n):dirL (pin d++n)=d:=by
 unfold dirL;rw[cutL_path d n h]
 by_cases hd:d=[]
 ·subst hd;rfl
 ·rw[pin_ne d hd];simp
theorem namL_no:∀l:Bs,¬ (47:UInt8)∈namL l
 | []=>by simp[namL]
 | c :: t=>by
  have ih:=namL_no t;unfold namL at ih ⊢;simp only[cutL]
  split
  ·simpa using ih
  ·rename_i h
   have h0:cutL t=0:=by omega
   rw[h0]at ih
   split
   ·simpa using ih
   ·rename_i hc
    simp only[List.drop_zero,List.mem_cons,not_or]at ih ⊢;exact ⟨fun e=>hc e.symm,ih⟩
theorem cutL_get:∀(l:Bs),0<cutL l→l[cutL l - 1]?=some 47
 | [],h=>by cases h
 | c :: t,h=>by
  have ih:=cutL_get t;simp only[cutL]at h ⊢
  split
  ·rename_i h1
   have:=ih h1;rw[show cutL t+1 - 1=(cutL t - 1)+1 by omega];simpa using this
  ·rename_i h1
   rw[if_neg h1]at h
   split
   ·rename_i hc
    simp[hc]
   ·rename_i hc
    rw[if_neg hc]at h;omega
theorem preL_dir (l:Bs) (h:l.head?≠some 47):preL l=pin (dirL l):=by
 by_cases h0:cutL l=0
 ·simp[preL,dirL,h0,pin]
 ·have hg:=cutL_get l (by omega);have hle:=cutL_le l;have h1:cutL l≠1:=fun e=>by
   rw[e]at hg;apply h;rw[List.head?_eq_getElem?];exact hg
  have hd:dirL l=l.take (cutL l - 1):=by simp[dirL,h0]
  have hne:dirL l≠[]:=fun e=>by
   rw[hd]at e;have:=congrArg List.length e;rw[List.length_take,List.length_nil]at this;omega
  rw[pin_ne _ hne,hd];unfold preL;obtain ⟨m,hm⟩:∃m,cutL l=m+1:=⟨cutL l - 1,by omega⟩;rw[hm]at hg ⊢;simp only[Nat.add_sub_cancel]at hg ⊢;have hml:m<l.length:=by omega
  rw[List.take_succ_eq_append_getElem hml];rw[List.getElem?_eq_getElem hml]at hg;rw[Option.some.inj hg]
def belL (p d:Bs):Bool:=if d=[] then !p.isEmpty else decide (d.length<p.length) && (p.take (d.length+1) == d++[47])
theorem below_of (d r:Bs) (h:r≠[]):belL (pin d++r) d=true:=by
 unfold belL
 by_cases hd:d=[]
 ·subst hd;rw[if_pos rfl,pin_nil];cases r with | nil=>exact absurd rfl h | cons a b=>rfl
 ·rw[if_neg hd,pin_ne d hd];have:(d++[47]++r).take (d.length+1)=d++[47]:=by
   rw[List.take_append_of_le_length (by simp)];exact List.take_of_length_le (by simp)
  rw[this];simp
theorem below_elim (p d:Bs) (hd:d≠[]) (h:belL p d=true):∃r,p=d++[47]++r:=by
 unfold belL at h;rw[if_neg hd,Bool.and_eq_true,beq_iff_eq]at h;exact ⟨p.drop (d.length+1),by rw[← h.2,List.take_append_drop]⟩
theorem below_ne (p d:Bs) (h:belL p d=true):p≠d:=fun e=>by
 subst e;unfold belL at h
 split at h
 ·rename_i h0;rw[h0]at h;cases h
 ·simp at h
theorem below_trans (a b c:Bs) (h1:belL a b=true) (h2:belL b c=true):belL a c=true:=by
 by_cases hc:c=[]
 ·subst hc;unfold belL;rw[if_pos rfl];have:b≠[]:=below_ne b [] h2;obtain ⟨r,rfl⟩:=below_elim a b this h1;cases b with | nil=>exact absurd rfl this | cons x y=>rfl
 ·obtain ⟨r2,rfl⟩:=below_elim b c hc h2;obtain ⟨r1,rfl⟩:=below_elim a _ (by simp) h1;have:=below_of c (r2++[47]++r1) (by simp);rw[pin_ne c hc]at this;simpa[List.append_assoc] using this
def firstC (d p:Bs):Option Bs:=if pin d <+: p then some ((p.drop (pin d).length).takeWhile (· != 47)) else none
theorem firstC_path (d n t:Bs) (h:¬ (47:UInt8)∈n) (ht:t=[]∨∃u,t=47 :: u):firstC d (pin d++n++t)=some n:=by
 unfold firstC;rw[if_pos ⟨n++t,by rw[List.append_assoc]⟩,List.append_assoc,List.drop_left];have hw:∀n:Bs,¬ (47:UInt8)∈n→(n++t).takeWhile (· != 47)=n:=by
  intro n hn
  induction n with
  | nil=>rcases ht with rfl | ⟨u,rfl⟩ <;> simp
  | cons a b ih=>
   simp only[List.mem_cons,not_or]at hn;simp only[List.cons_append];rw[List.takeWhile_cons_of_pos (by simpa using fun e=>hn.1 e.symm),ih hn.2]
 rw[hw n h]
abbrev Ds:=List (ByteArray × ByteArray)
theorem pre_data (s:ByteArray):(pre s).data.toList=preL s.data.toList:=by
 unfold pre preL;rw[Lib.extract_data];simp[cut]
theorem nam_data (s:ByteArray):(nam s).data.toList=namL s.data.toList:=by
 unfold nam namL;rw[Lib.extract_data];unfold cut;rw[List.take_of_length_le (by simp)]
theorem data_append (a b:ByteArray):(a++b).data.toList=a.data.toList++b.data.toList:=by simp
theorem size_of_data {s:ByteArray} {l:List UInt8} (h:s.data.toList=l):s.size=l.length:=by rw[← h];simp
theorem prefixIn_data (s:ByteArray):(prefixIn s).data.toList=pin s.data.toList:=by
 unfold prefixIn pin
 split
 ·rfl
 ·rw[data_append]
def stepW (i:Nat) (ds:Ds) (n:Nd):Option Ds:=
 if i<30∧fits n.kind n.data.data.toList=true then
  (if i=0 then (if n.path.toList.isEmpty=true then some (enterL ds n.path n.kind) else none) else placeRest ds n.path n.kind)
 else none
def runF:Nat→Ds→List Nd→Option Ds
 | _,ds,[]=>some ds
 | i,ds,n :: r=>match stepW i ds n with
  | some ds'=>runF (i+1) ds' r
  | none=>none
theorem fwGo_step' (i:Nat) (ds:Ds) (n:Nd) (r:List Nd):fwGo i ds (n :: r)=match stepW i ds n with | some ds'=>fwGo (i+1) ds' r | none=>some i:=by
 simp only[fwGo,stepW]
 by_cases h:i<30∧fits n.kind n.data.data.toList=true
 ·rw[if_pos h,if_pos h]
  by_cases h0:i=0
  ·rw[if_pos h0,if_pos h0]
   by_cases hp:n.path.toList.isEmpty=true
   ·rw[if_pos hp,if_pos hp,h0]
   ·rw[if_neg hp,if_neg hp,h0]
  ·rw[if_neg h0,if_neg h0];cases placeRest ds n.path n.kind <;> rfl
 ·rw[if_neg h,if_neg h]
theorem fwGo_run:∀(A:List Nd) (i:Nat) (ds ds':Ds) (r:List Nd),runF i ds A=some ds'→fwGo i ds (A++r)=fwGo (i+A.length) ds' r
 | [],i,ds,ds',r,h=>by simp only[runF,Option.some.injEq]at h;subst h;simp
 | n :: A,i,ds,ds',r,h=>by
  simp only[runF]at h;rw[List.cons_append,fwGo_step'];cases hs:stepW i ds n with
  | none=>rw[hs]at h;cases h
  | some d=>
   rw[hs]at h;simp only at h ⊢;rw[fwGo_run A (i+1) d ds' r h,List.length_cons]
   congr 1;omega
theorem run_snoc:∀(A:List Nd) (i:Nat) (ds:Ds) (x:Nd),runF i ds (A++[x])=(runF i ds A).bind fun d=>stepW (i+A.length) d x
 | [],i,ds,x=>by simp only[List.nil_append,runF,List.length_nil,Nat.add_zero,Option.bind_some];cases stepW i ds x <;> rfl
 | n :: A,i,ds,x=>by
  simp only[List.cons_append,runF];cases hs:stepW i ds n with
  | none=>rfl
  | some d=>simp only;rw[run_snoc A (i+1) d x,List.length_cons];congr 1;funext d';congr 1;omega
theorem firstW_run (l:List Nd) (ds:Ds) (hl:l≠[]) (h:runF 0 [] l=some ds):firstW l=none:=by
 unfold firstW;rw[if_neg hl];have:=fwGo_run l 0 [] ds [] h;rw[List.append_nil]at this;rw[this];rfl
def nameG (n:Nat) (al:Bool):Bs:=if al then [UInt8.ofNat (97+n),206,177,32,120] else [UInt8.ofNat (97+n)]
def IsG (l:Bs):Prop:=∃n al,n<26∧l=nameG n al
def np (n:Nd):Bs:=n.path.data.toList
def stepS (dir name:Bs) (st:Option Bool) (y:Nd):Option Bool:=match st with
 | none=>none
 | some b=>if np y=dir∧y.kind=4 then some true else if b=false then some false else if belL (np y) dir=false then none else if dirL (np y)=dir∧bl (namL (np y)) name=false then none else some true
def scan (dir name:Bs) (l:List Nd):Option Bool:=l.foldl (stepS dir name) (some false)
theorem scan_snoc (dir name:Bs) (l:List Nd) (x:Nd):scan dir name (l++[x])=stepS dir name (scan dir name l) x:=by simp[scan]
theorem scan_none (dir name:Bs) (l:List Nd) (h:∀y∈l,np y≠dir):scan dir name l=some false:=by
 unfold scan
 induction l with
 | nil=>rfl
 | cons y r ih=>
  have h1:=h y (List.mem_cons_self);have:stepS dir name (some false) y=some false:=by simp[stepS,h1]
  rw[List.foldl_cons,this];exact ih (fun z hz=>h z (List.mem_cons_of_mem _ hz))
structure OInv (l:List Nd) (D:List (Bs × Bs)):Prop where
 root:∀d la:Bs,D[0]?=some (d,la)→d=[]
 chain:∀(i:Nat) (d la d' la':Bs),D[i]?=some (d,la)→D[i+1]?=some (d',la')→d'=pin d++la∧la≠[]∧¬ (47:UInt8)∈la
 yes:∀(i:Nat) (d la:Bs),D[i]?=some (d,la)→∀name:Bs,name≠[]→(scan d name l=some true↔bl la name=true)
 no:∀dir name:Bs,(∀(i:Nat) (d la:Bs),D[i]?=some (d,la)→d≠dir)→scan dir name l≠some true
 comp:∀y∈l,∀(i:Nat) (d la:Bs),D[i]?=some (d,la)→∀c:Bs,firstC d (np y)=some c→c=la∨bl c la=true
theorem OInv.up {l:List Nd} {D:List (Bs × Bs)} (h:OInv l D) {i:Nat} {d la:Bs} (hi:D[i]?=some (d,la)):∀(k:Nat) (d' la':Bs),D[i+1+k]?=some (d',la') →
  ∃t,d'=pin d++la++t∧(t=[]∨∃u,t=47 :: u)∧la≠[]∧¬ (47:UInt8)∈la
 | 0,d',la',hk=>by
  obtain ⟨h1,h2,h3⟩:=h.chain i d la d' la' hi hk;exact ⟨[],by rw[h1,List.append_nil],.inl rfl,h2,h3⟩
 | k+1,d',la',hk=>by
  have hlt:i+1+k<D.length:=by
   have:=(List.getElem?_eq_some_iff.1 hk).1;omega
  obtain ⟨⟨e,le⟩,he⟩:∃x,D[i+1+k]?=some x:=⟨_,List.getElem?_eq_getElem hlt⟩;obtain ⟨t,h1,h2,h3,h4⟩:=h.up hi k e le he;obtain ⟨g1,g2,g3⟩:=h.chain (i+1+k) e le d' la' he hk;have hne:e≠[]:=by rw[h1];simp[h3]
  rw[pin_ne e hne,h1]at g1;refine ⟨t++[47]++le,by rw[g1];simp[List.append_assoc],?_,h3,h4⟩;rcases h2 with rfl | ⟨u,rfl⟩
  ·exact .inr ⟨le,rfl⟩
  ·exact .inr ⟨u++[47]++le,by simp⟩
theorem OInv.up' {l:List Nd} {D:List (Bs × Bs)} (h:OInv l D) {i j:Nat} {d la d' la':Bs} (hi:D[i]?=some (d,la)) (hj:D[j]?=some (d',la')) (hij:i<j) :
  ∃t,d'=pin d++la++t∧(t=[]∨∃u,t=47 :: u)∧la≠[]∧¬ (47:UInt8)∈la:=by
 obtain ⟨k,rfl⟩:∃k,j=i+1+k:=⟨j - (i+1),by omega⟩;exact h.up hi k d' la' hj
theorem OInv.len {l:List Nd} {D:List (Bs × Bs)} (h:OInv l D) {i j:Nat} {d la d' la':Bs} (hi:D[i]?=some (d,la)) (hj:D[j]?=some (d',la')) (hij:i<j):d.length<d'.length:=by
 obtain ⟨t,rfl,_,h2,_⟩:=h.up' hi hj hij;have:=pin_length d;have:0<la.length:=List.length_pos_iff.2 h2;simp only[List.length_append];omega
theorem OInv.inj {l:List Nd} {D:List (Bs × Bs)} (h:OInv l D) {i j:Nat} {d la la':Bs} (hi:D[i]?=some (d,la)) (hj:D[j]?=some (d,la')):i=j:=by
 rcases Nat.lt_trichotomy i j with hlt | he | hlt
 ·have:=h.len hi hj hlt;omega
 ·exact he
 ·have:=h.len hj hi hlt;omega
theorem pin_inj (a b:Bs) (h:pin a=pin b):a=b:=by
 unfold pin at h
 by_cases ha:a=[]
 ·by_cases hb:b=[]
  ·rw[ha,hb]
  ·rw[if_pos ha,if_neg hb]at h;simp at h
 ·by_cases hb:b=[]
  ·rw[if_neg ha,if_pos hb]at h;simp at h
  ·rw[if_neg ha,if_neg hb]at h;exact List.append_cancel_right h
theorem OInv.depth {l:List Nd} {D:List (Bs × Bs)} (h:OInv l D):∀(i:Nat) (d la:Bs),D[i]?=some (d,la)→(pin d).count 47=i
 | 0,d,la,hi=>by rw[h.root d la hi];rfl
 | i+1,d',la',hj=>by
  have hlt:i<D.length:=by
   have:=(List.getElem?_eq_some_iff.1 hj).1;omega
  obtain ⟨⟨d,la⟩,hi⟩:∃x,D[i]?=some x:=⟨_,List.getElem?_eq_getElem hlt⟩;obtain ⟨g1,g2,g3⟩:=h.chain i d la d' la' hi hj;have ih:=h.depth i d la hi;have hne:d'≠[]:=by rw[g1];simp[g2]
  rw[pin_ne d' hne,g1,List.count_append,List.count_append,ih,List.count_eq_zero.2 g3];rfl
theorem OInv.head {l:List Nd} {D:List (Bs × Bs)} (h:OInv l D) {i:Nat} {d la:Bs} (hi:D[i]?=some (d,la)):d.head?≠some 47:=by
 cases i with
 | zero=>rw[h.root d la hi];simp
 | succ i=>
  have hlt:0<D.length:=by
   have:=(List.getElem?_eq_some_iff.1 hi).1;omega
  obtain ⟨⟨d0,la0⟩,h0⟩:∃x,D[0]?=some x:=⟨_,List.getElem?_eq_getElem hlt⟩;obtain ⟨t,rfl,_,h2,h3⟩:=h.up' h0 hi (by omega);rw[h.root d0 la0 h0,pin_nil];cases la0 with
  | nil=>exact absurd rfl h2
  | cons c r=>simp only[List.nil_append,List.cons_append,List.head?_cons,ne_eq,Option.some.injEq];exact fun e=>h3 (by rw[e];simp)
def newD (D:List (Bs × Bs)) (a:Nat) (d nm:Bs) (x:Nd):List (Bs × Bs):=D.take a++[(d,nm)]++(if x.kind=4 then [(np x,[])] else [])
theorem newD_get (D:List (Bs × Bs)) (a:Nat) (d nm:Bs) (x:Nd) (ha:a<D.length) (i:Nat) (e le:Bs) (h:(newD D a d nm x)[i]?=some (e,le)) :
  (i<a∧D[i]?=some (e,le))∨(i=a∧e=d∧le=nm)∨(i=a+1∧x.kind=4∧e=np x∧le=[]):=by
 have hl:(D.take a).length=a:=by rw[List.length_take];omega
 unfold newD at h;rw[List.append_assoc]at h;rcases Nat.lt_trichotomy i a with hi | hi | hi
 ·left
  rw[List.getElem?_append_left (by omega),List.getElem?_take_of_lt hi]at h;exact ⟨hi,h⟩
 ·right;left
  rw[List.getElem?_append_right (by omega),hl,hi,Nat.sub_self]at h;simp at h;exact ⟨hi,h.1.symm,h.2.symm⟩
 ·right;right
  rw[List.getElem?_append_right (by omega),hl]at h;obtain ⟨k,hk⟩:∃k,i - a=k+1:=⟨i - a - 1,by omega⟩;rw[hk,List.singleton_append,List.getElem?_cons_succ]at h
  split at h
  ·cases k with
   | zero=>simp at h;exact ⟨by omega,by assumption,h.1.symm,h.2⟩
   | succ k=>simp at h
  ·simp at h
theorem newD_low (D:List (Bs × Bs)) (a:Nat) (d nm:Bs) (x:Nd) (ha:a<D.length) (i:Nat) (hi:i<a):(newD D a d nm x)[i]?=D[i]?:=by
 have hl:(D.take a).length=a:=by rw[List.length_take];omega
 unfold newD;rw[List.append_assoc,List.getElem?_append_left (by omega),List.getElem?_take_of_lt hi]
theorem newD_at (D:List (Bs × Bs)) (a:Nat) (d nm:Bs) (x:Nd) (ha:a<D.length):(newD D a d nm x)[a]?=some (d,nm):=by
 have hl:(D.take a).length=a:=by rw[List.length_take];omega
 unfold newD;rw[List.append_assoc,List.getElem?_append_right (by omega),hl,Nat.sub_self];rfl
theorem newD_new (D:List (Bs × Bs)) (a:Nat) (d nm:Bs) (x:Nd) (ha:a<D.length) (hx:x.kind=4):(newD D a d nm x)[a+1]?=some (np x,[]):=by
 have hl:(D.take a).length=a:=by rw[List.length_take];omega
 unfold newD;rw[List.append_assoc,List.getElem?_append_right (by omega),hl,show a+1 - a=1 by omega,if_pos hx];rfl
theorem stepS_true (dir name:Bs) (st:Option Bool) (y:Nd) (hne:np y≠dir) (hb:belL (np y) dir=true) (hk:¬ (dirL (np y)=dir∧bl (namL (np y)) name=false)):stepS dir name st y=some true↔st=some true:=by
 cases st with
 | none=>simp[stepS]
 | some b=>cases b <;> simp[stepS,hne,hb,hk]
theorem stepS_out (dir name:Bs) (st:Option Bool) (y:Nd) (h:¬ (np y=dir∧y.kind=4)) (hst:st≠some true):stepS dir name st y≠some true:=by
 cases st with
 | none=>simp[stepS]
 | some b=>cases b with
  | true=>exact absurd rfl hst
  | false=>simp only[stepS,if_neg h,if_true];simp
theorem stepS_over (dir name:Bs) (st:Option Bool) (y:Nd) (h:np y≠dir) (hb:belL (np y) dir=false):stepS dir name st y≠some true:=by
 cases st with
 | none=>simp[stepS]
 | some b=>cases b <;> simp[stepS,h,hb]
theorem OInv.step {l:List Nd} {D:List (Bs × Bs)} (h:OInv l D) (x:Nd) (a:Nat) (d la nm:Bs) (ha:D[a]?=some (d,la)) (hx:np x=pin d++nm) (hn:nm≠[]) (hn47:¬ (47:UInt8)∈nm) (hlt:bl la nm=true) :
  OInv (l++[x]) (newD D a d nm x):=by
 have hal:a<D.length:=(List.getElem?_eq_some_iff.1 ha).1;have hxl:d.length<(np x).length:=by
  rw[hx];have:=pin_length d;have:0<nm.length:=List.length_pos_iff.2 hn;simp only[List.length_append];omega
 have hdir:dirL (np x)=d:=by rw[hx];exact dirL_path d nm hn47
 have hnam:namL (np x)=nm:=by rw[hx];exact namL_path d nm hn47
 have hfresh:∀y∈l,∀t,(t=[]∨∃u,t=47 :: u)→np y≠np x++t:=fun y hy t ht e=>by
  rw[hx]at e;have hc:=h.comp y hy a d la ha nm (by rw[e];exact firstC_path d nm t hn47 ht);rcases hc with rfl | hc
  ·rw[bl_irr]at hlt;cases hlt
  ·rw[bl_asym _ _ hc]at hlt;cases hlt
 have hf0:∀y∈l,np y≠np x:=fun y hy e=>hfresh y hy [] (.inl rfl) (by rw[e,List.append_nil])
 have hxne:np x≠[]:=by rw[hx];simp[hn]
 have hup:∀i e le,i<a→D[i]?=some (e,le)→∃t,np x=pin e++le++(47 :: t)∧le≠[]∧¬ (47:UInt8)∈le:=fun i e le hi he=>by
  obtain ⟨t,h1,h2,h3,h4⟩:=h.up' he ha hi;have hdne:d≠[]:=by rw[h1];simp[h3]
  rw[pin_ne d hdne,h1]at hx;rcases h2 with rfl | ⟨u,rfl⟩
  ·exact ⟨nm,by rw[hx];simp[List.append_assoc],h3,h4⟩
  ·exact ⟨u++[47]++nm,by rw[hx];simp[List.append_assoc],h3,h4⟩
 refine ⟨?_,?_,?_,?_,?_⟩
 ·intro e le he;rcases newD_get D a d nm x hal 0 e le he with ⟨h1,h2⟩ | ⟨h1,h2,h3⟩ | ⟨h1,_⟩
  ·exact h.root e le h2
  ·subst h1;rw[h2];exact h.root d la ha
  ·omega
 ·intro i e le e' le' he he';rcases newD_get D a d nm x hal (i+1) e' le' he' with ⟨h1,h2⟩ | ⟨h1,h2,h3⟩ | ⟨h1,h2,h3,h4⟩
  ·rw[newD_low D a d nm x hal i (by omega)]at he;exact h.chain i e le e' le' he h2
  ·rw[newD_low D a d nm x hal i (by omega)]at he;subst h1;rw[h2];exact h.chain i e le d la he ha
  ·obtain rfl:i=a:=by omega
   rw[newD_at D i d nm x hal]at he;cases he;exact ⟨by rw[h3,hx],hn,hn47⟩
 ·intro i e le he name hname;rw[scan_snoc];rcases newD_get D a d nm x hal i e le he with ⟨h1,h2⟩ | ⟨h1,h2,h3⟩ | ⟨h1,h2,h3,h4⟩
  ·obtain ⟨t,g1,g2,g3⟩:=hup i e le h1 h2;have hne:np x≠e:=fun e1=>by
    have:=pin_length e;rw[g1]at e1;have:=congrArg List.length e1;simp at this;omega
   have hb:belL (np x) e=true:=by rw[g1,List.append_assoc];exact below_of e _ (by simp)
   have hdl:=h.len h2 ha h1;rw[stepS_true _ _ _ _ hne hb (fun h=>by rw[hdir]at h;rw[h.1]at hdl;omega)];exact h.yes i e le h2 name hname
  ·rw[h2,h3];have hne:np x≠d:=fun e1=>by rw[e1]at hxl;omega
   have hb:belL (np x) d=true:=by rw[hx];exact below_of d nm hn
   have hy:=h.yes a d la ha name hname;cases hnn:bl nm name with
   | true=>
    rw[stepS_true _ _ _ _ hne hb (fun h=>by rw[hnam,hnn]at h;cases h.2),hy];exact ⟨fun _=>rfl,fun _=>bl_trans _ _ _ hlt hnn⟩
   | false=>
    refine ⟨fun hs=>?_,fun hs=>by cases hs⟩;exfalso
    revert hs
    cases scan d name l with
    | none=>simp[stepS]
    | some b=>cases b <;> simp[stepS,hne,hb,hdir,hnam,hnn]
  ·rw[h3,h4,scan_none _ _ l hf0];refine ⟨fun _=>bl_empty name hname,fun _=>?_⟩;simp[stepS,h2]
 ·intro dir name hno;rw[scan_snoc]
  by_cases hin:∃(i:Nat) (la':Bs),D[i]?=some (dir,la')
  ·obtain ⟨i,la',hi⟩:=hin;have hia:a<i:=by
    rcases Nat.lt_trichotomy i a with h1 | h1 | h1
    ·exact absurd rfl (hno i dir la' (by rw[newD_low D a d nm x hal i h1];exact hi))
    ·subst h1;rw[ha]at hi;cases hi;exact absurd rfl (hno i d nm (newD_at D i d nm x hal))
    ·exact h1
   obtain ⟨t,g1,g2,g3,g4⟩:=h.up' ha hi hia;have key:∀u,np x≠dir++u∨¬ (u=[]∨∃v,u=47 :: v):=fun u=>by
    by_cases hu:u=[]∨∃v,u=47 :: v
    ·left
     intro e1;rw[hx,g1,List.append_assoc,List.append_assoc]at e1;have e2:=List.append_cancel_left e1;have hfc:=firstC_path [] la (t++u) g4 (by
      rcases g2 with rfl | ⟨v,rfl⟩
      ·simpa using hu
      ·exact .inr ⟨v++u,rfl⟩)
     rw[pin_nil,List.nil_append,← e2]at hfc;have hfn:=firstC_path [] nm [] hn47 (.inl rfl);rw[pin_nil,List.nil_append,List.append_nil,hfc]at hfn;cases hfn;rw[bl_irr]at hlt;cases hlt
    ·exact .inr hu
   have hne:np x≠dir:=fun e1=>by
    rcases key [] with h1 | h1
    ·exact h1 (by rw[List.append_nil];exact e1)
    ·exact h1 (.inl rfl)
   have hdne:dir≠[]:=by rw[g1];simp[g3]
   have hb:belL (np x) dir=false:=by
    cases hb:belL (np x) dir with
    | false=>rfl
    | true=>
     obtain ⟨r,e1⟩:=below_elim _ _ hdne hb;rcases key (47 :: r) with h1 | h1
     ·exact absurd (by rw[e1];simp) h1
     ·exact absurd (.inr ⟨r,rfl⟩) h1
   exact stepS_over _ _ _ _ hne hb
  ·refine stepS_out _ _ _ _ (fun hc=>?_) (h.no dir name (fun i d' la' hi e1=>hin ⟨i,la',by rw[← e1];exact hi⟩));exact hno (a+1) (np x) [] (newD_new D a d nm x hal hc.2) hc.1
 ·intro y hy i e le he c hc;rcases newD_get D a d nm x hal i e le he with ⟨h1,h2⟩ | ⟨h1,h2,h3⟩ | ⟨h1,h2,h3,h4⟩
  ·rcases List.mem_append.1 hy with hy | hy
   ·exact h.comp y hy i e le h2 c hc
   ·rw[List.mem_singleton]at hy;subst hy;obtain ⟨t,g1,g2,g3⟩:=hup i e le h1 h2;rw[g1,firstC_path e le (47 :: t) g3 (.inr ⟨t,rfl⟩)]at hc;cases hc;exact .inl rfl
  ·rw[h2]at hc;rw[h3];rcases List.mem_append.1 hy with hy | hy
   ·rcases h.comp y hy a d la ha c hc with rfl | h5
    ·exact .inr hlt
    ·exact .inr (bl_trans _ _ _ h5 hlt)
   ·rw[List.mem_singleton]at hy;subst hy;have:=firstC_path d nm [] hn47 (.inl rfl);rw[List.append_nil,← hx,hc]at this;exact .inl (Option.some.inj this)
  ·rw[h3]at hc;exfalso;unfold firstC at hc
   split at hc
   ·rename_i hpre
    obtain ⟨r,hr⟩:=hpre;rw[pin_ne _ hxne]at hr;rcases List.mem_append.1 hy with hy | hy
    ·exact hfresh y hy (47 :: r) (.inr ⟨r,rfl⟩) (by rw[← hr];simp)
    ·rw[List.mem_singleton]at hy;subst hy;have:=congrArg List.length hr;simp at this
   ·cases hc
inductive It where
 | word (w:ByteArray)
 | bracket
 | kind
 | inFile
 | inDir
 | name
 | data
def It.most:It→Nat
 | .name=>48
 | .data=>100
 | _=>8
structure Gr where
 nodes:List Nd
 dirs:Ds
 path:ByteArray
def noNd:Nd:=⟨⟨#[]⟩,0,⟨#[]⟩⟩
def lastN (l:List Nd):Nd:=l.getD (l.length - 1) noNd
def setN (l:List Nd) (x:Nd):List Nd:=l.set (l.length - 1) x
def lastD (ds:Ds):ByteArray × ByteArray:=ds.getD (ds.length - 1) (⟨#[]⟩,⟨#[]⟩)
def setD (ds:Ds) (x:ByteArray × ByteArray):Ds:=ds.set (ds.length - 1) x
inductive Tk where
 | more (g:Gr) (push:List It)
 | err (e:Int)
def wFile:ByteArray:=⟨#[102,105,108,101]⟩
def wLink:ByteArray:=⟨#[108,105,110,107]⟩
def wDir:ByteArray:=⟨#[100,105,114]⟩
def takeF (g:Gr):It→ByteArray→Tk
 | .word w,s=>if s=w then .more g [] else .err 5
 | .bracket,s=>if s=wOpen then (if 5<g.dirs.length then .err 8 else if 30≤g.nodes.length then .err 9 else .more {g with nodes:=g.nodes++[⟨g.path,0,⟨#[]⟩⟩]} [.word wType,.kind]) else .err 5
 | .kind,s=>
  if s=wFile then .more {g with nodes:=setN g.nodes {lastN g.nodes with kind:=1}} [.inFile]
  else if s=wLink then .more {g with nodes:=setN g.nodes {lastN g.nodes with kind:=3}} [.word wTo,.data,.word wClose]
  else if s=wDir then .more {g with nodes:=setN g.nodes {lastN g.nodes with kind:=4},dirs:=g.dirs++[(prefixIn (lastN g.nodes).path,⟨#[]⟩)]} [.inDir]
  else .err 5
 | .inFile,s=>
  if s=wExec then .more {g with nodes:=setN g.nodes {lastN g.nodes with kind:=2}} [.word wNone,.word wData,.data,.word wClose]
  else if s=wData then .more g [.data,.word wClose]
  else .err 5
 | .inDir,s=>
  if s=wEntry then .more g [.word wOpen,.word wName,.name,.word wNode,.bracket,.word wClose,.inDir]
  else if s=wClose then .more {g with dirs:=g.dirs.take (g.dirs.length - 1)} []
  else .err 5
 | .name,s=>
  if isNameB s.data.toList=false then .err 6
  else if notAbove s (lastD g.dirs).2=true then .err 7
  else .more {g with dirs:=setD g.dirs ((lastD g.dirs).1,s),path:=(lastD g.dirs).1++s} []
 | .data,s=>if fits (lastN g.nodes).kind s.data.toList=true then .more {g with nodes:=setN g.nodes {lastN g.nodes with data:=s}} [] else .err 6
theorem take_word (g:Gr) (w s:ByteArray):takeF g (.word w) s=if s=w then .more g [] else .err 5:=rfl
theorem take_bracket (g:Gr) (s:ByteArray):takeF g .bracket s=if s=wOpen then (if 5<g.dirs.length then .err 8 else if 30≤g.nodes.length then .err 9 else .more ⟨g.nodes++[⟨g.path,0,⟨#[]⟩⟩],g.dirs,g.path⟩ [.word wType,.kind]) else .err 5:=rfl
theorem take_kind (g:Gr) (s:ByteArray):takeF g .kind s =
 if s=wFile then .more ⟨setN g.nodes ⟨(lastN g.nodes).path,1,(lastN g.nodes).data⟩,g.dirs,g.path⟩ [.inFile]
 else if s=wLink then .more ⟨setN g.nodes ⟨(lastN g.nodes).path,3,(lastN g.nodes).data⟩,g.dirs,g.path⟩ [.word wTo,.data,.word wClose]
 else if s=wDir then .more ⟨setN g.nodes ⟨(lastN g.nodes).path,4,(lastN g.nodes).data⟩,g.dirs++[(prefixIn (lastN g.nodes).path,⟨#[]⟩)],g.path⟩ [.inDir]
 else .err 5:=rfl
theorem take_inFile (g:Gr) (s:ByteArray):takeF g .inFile s =
 if s=wExec then .more ⟨setN g.nodes ⟨(lastN g.nodes).path,2,(lastN g.nodes).data⟩,g.dirs,g.path⟩ [.word wNone,.word wData,.data,.word wClose]
 else if s=wData then .more g [.data,.word wClose]
 else .err 5:=rfl
theorem take_inDir (g:Gr) (s:ByteArray):takeF g .inDir s =
 if s=wEntry then .more g [.word wOpen,.word wName,.name,.word wNode,.bracket,.word wClose,.inDir]
 else if s=wClose then .more ⟨g.nodes,g.dirs.take (g.dirs.length - 1),g.path⟩ []
 else .err 5:=rfl
theorem take_name (g:Gr) (s:ByteArray):takeF g .name s =
 if isNameB s.data.toList=false then .err 6
 else if notAbove s (lastD g.dirs).2=true then .err 7
 else .more ⟨g.nodes,setD g.dirs ((lastD g.dirs).1,s),(lastD g.dirs).1++s⟩ []:=rfl
theorem take_data (g:Gr) (s:ByteArray):takeF g .data s=if fits (lastN g.nodes).kind s.data.toList=true then .more ⟨setN g.nodes ⟨(lastN g.nodes).path,(lastN g.nodes).kind,s⟩,g.dirs,g.path⟩ [] else .err 6:=rfl
inductive Ct where
 | wait
 | bad (e:Int)
 | ok (s:Bs) (rest:Bs) (n:Nat)
def num8:Bs→Nat
 | []=>0
 | b :: r=>b.toNat+256*num8 r
def wholeOf (n:Nat):Nat:=8+n+padLen n
def cutF (l:Bs) (most:Nat):Ct:=
 if l.length<8 then .wait
 else if most<num8 (l.take 8) then .bad 3
 else if l.length<wholeOf (num8 (l.take 8)) then .wait
 else if ((l.take (wholeOf (num8 (l.take 8)))).drop (8+num8 (l.take 8))).all (· == 0)=true then .ok ((l.drop 8).take (num8 (l.take 8))) (l.drop (wholeOf (num8 (l.take 8)))) (wholeOf (num8 (l.take 8)))
 else .bad 4
structure St where
 left:Bs
 pos:Nat
 list:List It
 gr:Gr
inductive OutG (σ:Type) where
 | go (st:σ)
 | stop
 | fail (e:Int) (place:Nat)
abbrev Out:=OutG St
def stepF (st:St):Out:=match st.list with
 | []=>if st.left=[] then .stop else .fail 10 st.pos
 | i :: r=>match cutF st.left i.most with
  | .wait=>.stop
  | .bad e=>.fail e st.pos
  | .ok s rest n=>match takeF st.gr i ⟨s.toArray⟩ with
   | .err e=>.fail e st.pos
   | .more g push=>.go ⟨rest,st.pos+n,push++r,g⟩
inductive RdG (σ:Type) where
 | ok (st:σ)
 | bad (e:Int) (place:Nat)
abbrev Rd:=RdG St
def runG {σ:Type} (stp:σ→OutG σ):Nat→σ→RdG σ
 | 0,st=>.ok st
 | f+1,st=>match stp st with
  | .go st'=>runG stp f st'
  | .stop=>.ok st
  | .fail e p=>.bad e p
abbrev runS (f:Nat) (st:St):Rd:=runG stepF f st
def St.add (st:St) (s:Bs):St:={st with left:=st.left++s}
def feedF:Rd→Bs→Rd
 | .bad e p,_=>.bad e p
 | .ok st,s=>runS (st.left.length+s.length) (st.add s)
def closeF:Rd→List Nd × Int × Nat
 | .bad e p=>([],e,p)
 | .ok st=>if st.list=[] then (st.gr.nodes,0,0) else ([],2,st.pos+st.left.length)
def rd0:Rd:=.ok ⟨[],0,[.word wNar,.bracket],⟨[],[],⟨#[]⟩⟩⟩
def readF (s:Bs):List Nd × Int × Nat:=closeF (feedF rd0 s)
theorem wholeOf_ge (n:Nat):8+n≤wholeOf n:=by unfold wholeOf;omega
theorem cutF_ok {l:Bs} {m:Nat} {s r:Bs} {n:Nat} (h:cutF l m=.ok s r n):8≤l.length∧num8 (l.take 8)≤m∧n=wholeOf (num8 (l.take 8))∧n≤l.length∧s=(l.drop 8).take (num8 (l.take 8))∧r=l.drop n∧((l.take n).drop (8+num8 (l.take 8))).all (· == 0)=true:=by
 unfold cutF at h
 split at h
 ·cases h
 ·split at h
  ·cases h
  ·split at h
   ·cases h
   ·split at h
    ·injection h with h1 h2 h3
     subst h1;subst h2;subst h3;exact ⟨by omega,by omega,rfl,by omega,rfl,rfl,by assumption⟩
    ·cases h
theorem cutF_len {l:Bs} {m:Nat} {s r:Bs} {n:Nat} (h:cutF l m=.ok s r n):r.length+8≤l.length∧r.length+n=l.length∧s.length+8≤n∧s.length≤m:=by
 obtain ⟨h1,h2,h3,h4,rfl,rfl,_⟩:=cutF_ok h;have:=wholeOf_ge (num8 (l.take 8));simp only[List.length_drop,List.length_take];omega
theorem take_app (l b:Bs) (n:Nat) (h:n≤l.length):(l++b).take n=l.take n:=List.take_append_of_le_length h
theorem cutF_app (l b:Bs) (m:Nat):(∀s r n,cutF l m=.ok s r n→cutF (l++b) m=.ok s (r++b) n)∧(∀e,cutF l m=.bad e→cutF (l++b) m=.bad e):=by
 by_cases h8:l.length<8
 ·have:cutF l m=.wait:=by unfold cutF;rw[if_pos h8]
  rw[this];exact ⟨(fun _ _ _ h=>by cases h),(fun _ h=>by cases h)⟩
 ·have e8:=take_app l b 8 (by omega);have hl:(l++b).length=l.length+b.length:=List.length_append
  by_cases hm:m<num8 (l.take 8)
  ·have h1:cutF l m=.bad 3:=by unfold cutF;rw[if_neg h8,if_pos hm]
   have h2:cutF (l++b) m=.bad 3:=by unfold cutF;rw[if_neg (by omega),e8,if_pos hm]
   rw[h1,h2];exact ⟨(fun _ _ _ h=>by cases h),fun _ h=>h⟩
  ·by_cases hw:l.length<wholeOf (num8 (l.take 8))
   ·have:cutF l m=.wait:=by unfold cutF;rw[if_neg h8,if_neg hm,if_pos hw]
    rw[this];exact ⟨(fun _ _ _ h=>by cases h),(fun _ h=>by cases h)⟩
   ·have ew:=take_app l b (wholeOf (num8 (l.take 8))) (by omega);have g:=wholeOf_ge (num8 (l.take 8))
    by_cases hz:((l.take (wholeOf (num8 (l.take 8)))).drop (8+num8 (l.take 8))).all (· == 0)=true
    ·have h1:cutF l m=.ok ((l.drop 8).take (num8 (l.take 8))) (l.drop (wholeOf (num8 (l.take 8)))) (wholeOf (num8 (l.take 8))):=by
      unfold cutF;rw[if_neg h8,if_neg hm,if_neg hw,if_pos hz]
     have h2:cutF (l++b) m=.ok ((l.drop 8).take (num8 (l.take 8))) (l.drop (wholeOf (num8 (l.take 8)))++b) (wholeOf (num8 (l.take 8))):=by
      unfold cutF;rw[if_neg (by omega),e8,if_neg hm,if_neg (by omega),ew,if_pos hz];rw[List.drop_append_of_le_length (by omega),List.drop_append_of_le_length (by omega),take_app _ _ _ (by rw[List.length_drop];omega)]
     rw[h1,h2];refine ⟨fun s r n h=>?_,(fun _ h=>by cases h)⟩;injection h with a1 a2 a3
     subst a1;subst a2;subst a3;rfl
    ·have h1:cutF l m=.bad 4:=by unfold cutF;rw[if_neg h8,if_neg hm,if_neg hw,if_neg hz]
     have h2:cutF (l++b) m=.bad 4:=by unfold cutF;rw[if_neg (by omega),e8,if_neg hm,if_neg (by omega),ew,if_neg hz]
     rw[h1,h2];exact ⟨(fun _ _ _ h=>by cases h),fun _ h=>h⟩
theorem stepF_go {st st':St} (h:stepF st=.go st'):st'.left.length+8≤st.left.length∧st'.pos+st'.left.length=st.pos+st.left.length:=by
 unfold stepF at h
 split at h
 ·split at h <;> cases h
 ·split at h
  ·cases h
  ·cases h
  ·rename_i s rest n hc
   have hl:=cutF_len hc
   split at h
   ·cases h
   ·injection h with h;subst h
    simp only;omega
structure Pt where
 left:Bs
 pos:Nat
 gr:Gr
inductive Ex (α:Type) where
 | no (e:Int) (p:Nat)
 | yes (a:α)
def Ex.then {α β:Type} (x:Ex α) (f:α→Ex β):Ex β:=match x with
 | .no e p=>.no e p
 | .yes a=>f a
def one (i:It) (x:Pt):Ex (Pt × List It):=match cutF x.left i.most with
 | .wait=>.no 2 (x.pos+x.left.length)
 | .bad e=>.no e x.pos
 | .ok s rest n=>match takeF x.gr i ⟨s.toArray⟩ with
  | .err e=>.no e x.pos
  | .more g push=>.yes (⟨rest,x.pos+n,g⟩,push)
def exec:Nat→List It→Pt→Ex Pt
 | _,[],x=>.yes x
 | 0,_ :: _,x=>.no 2 (x.pos+x.left.length)
 | f+1,i :: K,x=>(one i x).then fun y=>exec f (y.2++K) y.1
theorem one_len {i:It} {x y:Pt} {l:List It} (h:one i x=.yes (y,l)):y.left.length+8≤x.left.length∧y.pos+y.left.length=x.pos+x.left.length:=by
 unfold one at h
 split at h
 ·cases h
 ·cases h
 ·rename_i s rest n hc
  have hl:=cutF_len hc
  split at h
  ·cases h
  ·injection h with h;injection h with h1 h2;subst h1
   simp only;omega
theorem one_none (i:It) (x:Pt) (h:x.left.length<8):one i x=.no 2 (x.pos+x.left.length):=by
 unfold one cutF;rw[if_pos h]
theorem exec_fuel:∀(f g:Nat) (K:List It) (x:Pt),x.left.length≤f→x.left.length≤g→exec f K x=exec g K x
 | f,g,[],x,_,_=>by cases f <;> cases g <;> rfl
 | 0,0,_ :: _,_,_,_=>rfl
 | 0,g+1,i :: K,x,h,_=>by simp only[exec];rw[one_none i x (by omega)];rfl
 | f+1,0,i :: K,x,_,h=>by simp only[exec];rw[one_none i x (by omega)];rfl
 | f+1,g+1,i :: K,x,hf,hg=>by
  simp only[exec];cases h:one i x with
  | no e p=>rfl
  | yes y=>
   obtain ⟨y,l⟩:=y;have:=one_len h;exact exec_fuel f g (l++K) y (by omega) (by omega)
def run (K:List It) (x:Pt):Ex Pt:=exec x.left.length K x
theorem run_nil (x:Pt):run [] x=.yes x:=by unfold run;cases x.left.length <;> rfl
theorem run_of (f:Nat) (K:List It) (x:Pt) (h:x.left.length≤f):exec f K x=run K x:=exec_fuel _ _ _ _ h (Nat.le_refl _)
theorem run_cons (i:It) (K:List It) (x:Pt):run (i :: K) x=(one i x).then fun y=>run (y.2++K) y.1:=by
 rw[← run_of (x.left.length+1) _ _ (by omega)];simp only[exec];cases h:one i x with
 | no e p=>rfl
 | yes y=>
  obtain ⟨y,l⟩:=y;have:=one_len h;exact run_of _ _ _ (by show y.left.length≤_;omega)
theorem run_append:∀(f:Nat) (K L:List It) (x:Pt),x.left.length≤f→run (K++L) x=(run K x).then (run L)
 | f,[],L,x,_=>by rw[run_nil];rfl
 | 0,i :: K,L,x,h=>by
  rw[List.cons_append,run_cons,run_cons,one_none i x (by omega)];rfl
 | f+1,i :: K,L,x,hf=>by
  rw[List.cons_append,run_cons,run_cons];cases h:one i x with
  | no e p=>rfl
  | yes y=>
   obtain ⟨y,l⟩:=y;have:=one_len h;show run (l++(K++L)) y=(run (l++K) y).then (run L);rw[← List.append_assoc];exact run_append f (l++K) L y (by omega)
theorem run_app (K L:List It) (x:Pt):run (K++L) x=(run K x).then (run L):=run_append _ K L x (Nat.le_refl _)
theorem run_then (i:It) (K:List It) (x:Pt):run (i :: K) x=(run [i] x).then (run K):=run_app [i] K x
def told:Ex Pt→List Nd × Int × Nat
 | .no e p=>([],e,p)
 | .yes x=>if x.left=[] then (x.gr.nodes,0,0) else ([],10,x.pos)
theorem close_run:∀(f:Nat) (left:Bs) (pos:Nat) (K:List It) (g:Gr),left.length≤f→closeF (runS f ⟨left,pos,K,g⟩)=told (exec f K ⟨left,pos,g⟩)
 | 0,left,pos,K,g,h=>by
  have h0:left=[]:=List.eq_nil_of_length_eq_zero (by omega);subst h0;cases K with
  | nil=>simp[runS,runG,closeF,exec,told]
  | cons i K=>simp[runS,runG,closeF,exec,told]
 | f+1,left,pos,[],g,h=>by
  simp only[runS,runG,stepF]
  by_cases h0:left=[]
  ·subst h0;simp[closeF,exec,told]
  ·rw[if_neg h0];simp[closeF,exec,told,h0]
 | f+1,left,pos,i :: K,g,h=>by
  simp only[runS,runG,stepF,exec,one];cases hc:cutF left i.most with
  | wait=>simp[closeF,told,Ex.then]
  | bad e=>simp[closeF,told,Ex.then]
  | ok s rest n=>
   have hl:=cutF_len hc;simp only;cases ht:takeF g i ⟨s.toArray⟩ with
   | err e=>simp[closeF,told,Ex.then]
   | more g' push=>simp only[Ex.then];exact close_run f rest (pos+n) (push++K) g' (by omega)
theorem readF_run (s:Bs):readF s=told (run [.word wNar,.bracket] ⟨s,0,⟨[],[],⟨#[]⟩⟩⟩):=by
 unfold readF rd0 feedF run;simp only[List.length_nil,Nat.zero_add,St.add,List.nil_append];exact close_run _ _ _ _ _ (Nat.le_refl _)
theorem num8_le:∀(k H:Nat),num8 (le (H:Int) k)=H % 256 ^ k:=by
 intro k;have key:∀(k:Nat) (H:Nat) (j:Nat),num8 ((List.range' j k).map (byteAt (H:Int)))=H / 256 ^ j % 256 ^ k:=by
  intro k
  induction k with
  | zero=>intro H j;simp[num8,Nat.mod_one]
  | succ k ih=>
   intro H j;rw[List.range'_succ,List.map_cons,num8,ih H (j+1)];have hb:(byteAt (H:Int) j).toNat=H / 256 ^ j % 256:=by
    have:=byteAt_val (H:Int) j;have e:((2:Int) ^ (8*j))=((256 ^ j:Nat):Int):=by rw[Int.natCast_pow,Int.pow_mul];rfl
    rw[e]at this;omega
   rw[hb,Nat.pow_succ,← Nat.div_div_eq_div_mul];have h2:=Nat.mod_mul (x:=H / 256 ^ j) (a:=256) (b:=256 ^ k);rw[Nat.pow_succ,Nat.mul_comm (256 ^ k) 256,h2]
 intro H;have:=key k H 0;simp only[Nat.pow_zero,Nat.div_one]at this;rw[← this];unfold le;rw[List.range_eq_range']
theorem enc_len (l:Bs):(enc l).length=wholeOf l.length:=by simp[enc,le_length,wholeOf];omega
theorem enc_take (l rest:Bs):(enc l++rest).take 8=le (l.length:Int) 8:=by
 unfold enc;rw[List.append_assoc,List.append_assoc];exact List.take_left' (le_length _ _)
theorem cut_enc (s rest:Bs) (m:Nat) (hm:s.length≤m) (hs:s.length<18446744073709551616):cutF (enc s++rest) m=.ok s rest (enc s).length:=by
 have hn:num8 ((enc s++rest).take 8)=s.length:=by
  rw[enc_take,num8_le];exact Nat.mod_eq_of_lt (by simpa using hs)
 have hl:(enc s++rest).length=wholeOf s.length+rest.length:=by rw[List.length_append,enc_len]
 have hg:=wholeOf_ge s.length;have hdrop:(enc s++rest).drop (wholeOf s.length)=rest:=by rw[← enc_len];exact List.drop_left
 have htake:(enc s++rest).take (wholeOf s.length)=enc s:=by rw[← enc_len];exact List.take_left
 unfold cutF;rw[hn,if_neg (by omega),if_neg (by omega),if_neg (by omega),htake,hdrop,enc_len];have hd8:(enc s++rest).drop 8=s++(List.replicate (padLen s.length) 0++rest):=by
  unfold enc;rw[List.append_assoc,List.append_assoc,List.drop_left' (le_length _ _)]
 have hd:(enc s).drop (8+s.length)=List.replicate (padLen s.length) 0:=by
  unfold enc;exact List.drop_left' (by rw[List.length_append,le_length])
 rw[if_pos (by rw[hd];simp),hd8,List.take_left]
theorem num8_lt:∀(l:Bs),num8 l<256 ^ l.length
 | []=>by simp[num8]
 | b :: r=>by
  have h1:=num8_lt r;have h2:=b.toNat_lt;rw[num8,List.length_cons,Nat.pow_succ];omega
theorem decodeN_le4 (n b0 b1 b2 b3:Nat):(Lib.decodeN n b0 b1 b2 b3).2≤4:=by
 unfold Lib.decodeN
 repeat' split
 all_goals simp
theorem decodeL_le4 (l:Bs):(Lib.decodeL l).2≤4:=by
 show (Utf8.decode _ _).2≤4;rw[Lib.decode_at];exact decodeN_le4 _ _ _ _ _
theorem letters_len:∀(n:Nat) (l:Bs) (k:Nat),l.length≤n→letters l=some k→l.length≤4*k
 | 0,l,k,h,_=>by omega
 | n+1,l,k,h,hk=>by
  by_cases hl:l=[]
  ·subst hl;simp
  ·rw[letters_step l hl]at hk;have hw:=Lib.decodeL_width l;have h4:=decodeL_le4 l;have hlen:0<l.length:=List.length_pos_iff.2 hl
   split at hk
   ·cases hk
   ·cases hr:letters (l.drop (Lib.decodeL l).2) with
    | none=>rw[hr]at hk;cases hk
    | some j=>
     rw[hr]at hk;have hk:j+1=k:=by simpa using hk
     have:=letters_len n _ j (by rw[List.length_drop];omega) hr;rw[List.length_drop]at this;omega
theorem name_len (l:Bs) (h:isNameB l=true):l.length≤48:=by
 unfold isNameB at h;cases hl:letters l with
 | none=>rw[hl]at h;simp at h
 | some n=>
  rw[hl]at h;have:=letters_len _ l n (Nat.le_refl _) hl;simp at h;omega
def Rds (K:List It) (b:Bs) (g g':Gr):Prop:=∀rest pos,run K ⟨b++rest,pos,g⟩=.yes ⟨rest,pos+b.length,g'⟩
theorem Rds.nil (g:Gr):Rds [] [] g g:=fun rest pos=>by rw[run_nil];simp
theorem Rds.app {K L:List It} {a b:Bs} {g g1 g2:Gr} (h:Rds K a g g1) (k:Rds L b g1 g2):Rds (K++L) (a++b) g g2:=fun rest pos=>by
 rw[run_app,List.append_assoc,h,Ex.then,k,List.length_append,Nat.add_assoc]
theorem Rds.cons {i:It} {L:List It} {a b:Bs} {g g1 g2:Gr} (h:Rds [i] a g g1) (k:Rds L b g1 g2):Rds (i :: L) (a++b) g g2:=Rds.app (K:=[i]) h k
theorem ba_eta (s:ByteArray):(⟨s.data.toList.toArray⟩:ByteArray)=s:=rfl
theorem Rds.step {i:It} {s:ByteArray} {b:Bs} {g g1 g2:Gr} {push:List It} (ht:takeF g i s=.more g1 push) (hs:s.size≤i.most) (hk:Rds push b g1 g2):Rds [i] (enc s.data.toList++b) g g2:=fun rest pos=>by
 have hm:i.most≤100:=by cases i <;> simp[It.most]
 have hl:s.data.toList.length=s.size:=by simp
 rw[run_cons];unfold one;simp only;rw[List.append_assoc,cut_enc _ _ _ (by omega) (by omega)];simp only[ba_eta,ht,Ex.then,List.append_nil];rw[hk,List.length_append,Nat.add_assoc]
theorem Rds.one {i:It} {s:ByteArray} {g g1:Gr} (ht:takeF g i s=.more g1 []) (hs:s.size≤i.most):Rds [i] (enc s.data.toList) g g1:=by
 have:=Rds.step ht hs (Rds.nil g1)
 rwa [List.append_nil]at this
theorem Rds.word (w:ByteArray) (g:Gr) (h:w.size≤8):Rds [.word w] (enc w.data.toList) g g:=Rds.one (by rw[take_word,if_pos rfl]) h
theorem lastN_snoc (l:List Nd) (x:Nd):lastN (l++[x])=x:=by simp[lastN]
theorem setN_snoc (l:List Nd) (x y:Nd):setN (l++[x]) y=l++[y]:=by simp[setN]
theorem lastD_snoc (l:Ds) (x:ByteArray × ByteArray):lastD (l++[x])=x:=by simp[lastD]
theorem setD_snoc (l:Ds) (x y:ByteArray × ByteArray):setD (l++[x]) y=l++[y]:=by simp[setD]
theorem bytes1 (a:ByteArray):bytesOf [a]=enc a.data.toList:=by simp[bytesOf,encs]
theorem bytes2 (a b:ByteArray):bytesOf [a,b]=enc a.data.toList++enc b.data.toList:=by simp[bytesOf,encs]
theorem bytes3 (a b c:ByteArray):bytesOf [a,b,c]=enc a.data.toList++(enc b.data.toList++enc c.data.toList):=by simp[bytesOf,encs]
theorem bytes5 (a b c d e:ByteArray):bytesOf [a,b,c,d,e]=enc a.data.toList++(enc b.data.toList++(enc c.data.toList++(enc d.data.toList++enc e.data.toList))):=by simp[bytesOf,encs]
theorem rds_bracket (ns:List Nd) (D:Ds) (path:ByteArray) (b:Bs) (g:Gr) (hD:D.length≤5) (hn:ns.length<30) (h:Rds [.kind] b ⟨ns++[⟨path,0,⟨#[]⟩⟩],D,path⟩ g):Rds [.bracket] (enc wOpen.data.toList++(enc wType.data.toList++b)) ⟨ns,D,path⟩ g:=by
 refine Rds.step (s:=wOpen) (push:=[.word wType,.kind]) (g1:=⟨ns++[⟨path,0,⟨#[]⟩⟩],D,path⟩) ?_ (by decide) ?_
 ·rw[take_bracket,if_pos rfl,if_neg (by simp only;omega),if_neg (by simp only;omega)]
 ·exact Rds.cons (Rds.word wType _ (by decide)) h
theorem fits_data (k:Int) (d:Bs) (h:fits k d=true):d.length≤100:=by
 unfold fits at h
 split at h
 ·simp at h;omega
 ·split at h
  ·simpa using h
  ·split at h
   ·have:d=[]:=by simpa using h
    subst this;simp
   ·cases h
theorem rds_data (ns:List Nd) (D:Ds) (p path:ByteArray) (k:Int) (d:ByteArray) (hf:fits k d.data.toList=true):Rds [.data,.word wClose] (enc d.data.toList++enc wClose.data.toList) ⟨ns++[⟨p,k,⟨#[]⟩⟩],D,path⟩ ⟨ns++[⟨p,k,d⟩],D,path⟩:=by
 have hl:d.data.toList.length=d.size:=by simp
 have:=fits_data _ _ hf;refine Rds.cons (Rds.one ?_ (by show d.size≤100;omega)) (Rds.word wClose _ (by decide));rw[take_data];simp only[lastN_snoc,setN_snoc,hf,if_pos]
theorem ne_data_exec:¬ wData=wExec:=by decide
theorem ne_link_file:¬ wLink=wFile:=by decide
theorem ne_dir_file:¬ wDir=wFile:=by decide
theorem ne_dir_link:¬ wDir=wLink:=by decide
theorem size_data:wData.size≤8:=by decide
theorem size_exec:wExec.size≤8:=by decide
theorem size_none:wNone.size≤8:=by decide
theorem size_file:wFile.size≤8:=by decide
theorem size_link:wLink.size≤8:=by decide
theorem size_dir:wDir.size≤8:=by decide
theorem size_to:wTo.size≤8:=by decide
theorem word1:wordOf 1=wFile:=rfl
theorem word2:wordOf 2=wFile:=rfl
theorem word3:wordOf 3=wLink:=rfl
theorem word4:wordOf 4=wDir:=rfl
theorem nodeF1 (E:List Nd→ByteArray→List UInt8 × List Nd) (path data:ByteArray) (r:List Nd):(nodeF E ⟨path,1,data⟩ r).1=enc wOpen.data.toList++(enc wType.data.toList++(enc wFile.data.toList++(enc wData.data.toList++(enc data.data.toList++enc wClose.data.toList)))):=by
 simp only[nodeF,bodyF,bytes1,bytes2,bytes3,word1,if_neg (show ¬ (1:Int)=4 by decide),if_neg (show ¬ (1:Int)=2 by decide),if_true,List.append_assoc]
theorem nodeF2 (E:List Nd→ByteArray→List UInt8 × List Nd) (path data:ByteArray) (r:List Nd):(nodeF E ⟨path,2,data⟩ r).1=enc wOpen.data.toList++(enc wType.data.toList++(enc wFile.data.toList++(enc wExec.data.toList++(enc wNone.data.toList++(enc wData.data.toList++(enc data.data.toList++enc wClose.data.toList)))))):=by
 simp only[nodeF,bodyF,bytes1,bytes2,bytes3,word2,if_neg (show ¬ (2:Int)=4 by decide),if_true,List.append_assoc]
theorem nodeF3 (E:List Nd→ByteArray→List UInt8 × List Nd) (path data:ByteArray) (r:List Nd):(nodeF E ⟨path,3,data⟩ r).1=enc wOpen.data.toList++(enc wType.data.toList++(enc wLink.data.toList++(enc wTo.data.toList++(enc data.data.toList++enc wClose.data.toList)))):=by
 simp only[nodeF,bodyF,bytes1,bytes2,bytes3,word3,if_neg (show ¬ (3:Int)=4 by decide),if_neg (show ¬ (3:Int)=2 by decide),if_neg (show ¬ (3:Int)=1 by decide),if_true,List.append_assoc]
theorem nodeF4 (E:List Nd→ByteArray→List UInt8 × List Nd) (path data:ByteArray) (r:List Nd):(nodeF E ⟨path,4,data⟩ r).1=enc wOpen.data.toList++(enc wType.data.toList++(enc wDir.data.toList++((E r (prefixIn path)).1++enc wClose.data.toList))):=by
 simp only[nodeF,bodyF,bytes1,bytes3,word4,if_true,List.append_assoc]
theorem nodeF_leaf (E:List Nd→ByteArray→List UInt8 × List Nd) (n:Nd) (r:List Nd) (h:n.kind≠4):(nodeF E n r).2=r:=by
 unfold nodeF bodyF;simp only;rw[if_neg h]
theorem rds_leaf (E:List Nd→ByteArray→List UInt8 × List Nd) (ns:List Nd) (D:Ds) (n:Nd) (r:List Nd) (hD:D.length≤5) (hn:ns.length<30) (hf:fits n.kind n.data.data.toList=true) (hk:n.kind≠4) :
  Rds [.bracket] (nodeF E n r).1 ⟨ns,D,n.path⟩ ⟨ns++[n],D,n.path⟩:=by
 obtain ⟨path,kind,data⟩:=n;simp only at hf hk ⊢;rcases fits_kind _ _ hf with rfl | rfl | rfl | rfl
 ·rw[nodeF1];have hA:=rds_data ns D path path 1 data hf;have tB:takeF ⟨ns++[⟨path,1,⟨#[]⟩⟩],D,path⟩ .inFile wData=.more ⟨ns++[⟨path,1,⟨#[]⟩⟩],D,path⟩ [.data,.word wClose]:=by rw[take_inFile,if_neg ne_data_exec,if_pos rfl]
  have hB:=Rds.step tB size_data hA;have tC:takeF ⟨ns++[⟨path,0,⟨#[]⟩⟩],D,path⟩ .kind wFile=.more ⟨ns++[⟨path,1,⟨#[]⟩⟩],D,path⟩ [.inFile]:=by rw[take_kind,if_pos rfl,lastN_snoc,setN_snoc]
  exact rds_bracket ns D path _ _ hD hn (Rds.step tC size_file hB)
 ·rw[nodeF2];have hA:=rds_data ns D path path 2 data hf;have tB:takeF ⟨ns++[⟨path,1,⟨#[]⟩⟩],D,path⟩ .inFile wExec=.more ⟨ns++[⟨path,2,⟨#[]⟩⟩],D,path⟩ [.word wNone,.word wData,.data,.word wClose]:=by rw[take_inFile,if_pos rfl,lastN_snoc,setN_snoc]
  have hB:=Rds.step tB size_exec (Rds.cons (Rds.word wNone _ size_none) (Rds.cons (Rds.word wData _ size_data) hA));have tC:takeF ⟨ns++[⟨path,0,⟨#[]⟩⟩],D,path⟩ .kind wFile=.more ⟨ns++[⟨path,1,⟨#[]⟩⟩],D,path⟩ [.inFile]:=by rw[take_kind,if_pos rfl,lastN_snoc,setN_snoc]
  exact rds_bracket ns D path _ _ hD hn (Rds.step tC size_file hB)
 ·rw[nodeF3];have hA:=rds_data ns D path path 3 data hf;have tC:takeF ⟨ns++[⟨path,0,⟨#[]⟩⟩],D,path⟩ .kind wLink=.more ⟨ns++[⟨path,3,⟨#[]⟩⟩],D,path⟩ [.word wTo,.data,.word wClose]:=by rw[take_kind,if_neg ne_link_file,if_pos rfl,lastN_snoc,setN_snoc]
  exact rds_bracket ns D path _ _ hD hn (Rds.step tC size_link (Rds.cons (Rds.word wTo _ size_to) hA))
 ·exact absurd rfl hk
theorem rds_dir (E:List Nd→ByteArray→List UInt8 × List Nd) (ns:List Nd) (D:Ds) (path:ByteArray) (r:List Nd) (g:Gr) (hD:D.length≤5) (hn:ns.length<30)
  (h:Rds [.inDir] ((E r (prefixIn path)).1++enc wClose.data.toList) ⟨ns++[⟨path,4,⟨#[]⟩⟩],D++[(prefixIn path,⟨#[]⟩)],path⟩ g) :
  Rds [.bracket] (nodeF E ⟨path,4,⟨#[]⟩⟩ r).1 ⟨ns,D,path⟩ g:=by
 rw[nodeF4];have tC:takeF ⟨ns++[⟨path,0,⟨#[]⟩⟩],D,path⟩ .kind wDir=.more ⟨ns++[⟨path,4,⟨#[]⟩⟩],D++[(prefixIn path,⟨#[]⟩)],path⟩ [.inDir]:=by rw[take_kind,if_neg ne_dir_file,if_neg ne_dir_link,if_pos rfl,lastN_snoc,setN_snoc]
 exact rds_bracket ns D path _ _ hD hn (Rds.step tC size_dir h)
theorem rds_end (ns:List Nd) (D:Ds) (x:ByteArray × ByteArray) (path:ByteArray):Rds [.inDir] (enc wClose.data.toList) ⟨ns,D++[x],path⟩ ⟨ns,D,path⟩:=by
 refine Rds.one ?_ (by decide);rw[take_inDir,if_neg (by decide),if_pos rfl];simp
theorem rds_entry (ns:List Nd) (D:Ds) (P last nm p0:ByteArray) (b1 b2:Bs) (g1 g2:Gr) (hn:isNameB nm.data.toList=true) (ha:notAbove nm last=false)
  (h1:Rds [.bracket] b1 ⟨ns,D++[(P,nm)],P++nm⟩ g1) (h2:Rds [.inDir] b2 g1 g2) :
  Rds [.inDir] (bytesOf [wEntry,wOpen,wName,nm,wNode]++b1++bytesOf [wClose]++b2) ⟨ns,D++[(P,last)],p0⟩ g2:=by
 have hl:nm.data.toList.length=nm.size:=by simp
 have h48:=name_len _ hn;have e:bytesOf [wEntry,wOpen,wName,nm,wNode]++b1++bytesOf [wClose]++b2=enc wEntry.data.toList++(enc wOpen.data.toList++(enc wName.data.toList++(enc nm.data.toList++(enc wNode.data.toList++(b1++(enc wClose.data.toList++b2)))))):=by
  rw[bytes5,bytes1];simp only[List.append_assoc]
 rw[e];refine Rds.step (s:=wEntry) (push:=[.word wOpen,.word wName,.name,.word wNode,.bracket,.word wClose,.inDir]) (g1:=⟨ns,D++[(P,last)],p0⟩) ?_ (by decide) ?_
 ·rw[take_inDir,if_pos rfl]
 ·refine Rds.cons (Rds.word wOpen _ (by decide)) (Rds.cons (Rds.word wName _ (by decide)) (Rds.cons (g1:=⟨ns,D++[(P,nm)],P++nm⟩) (Rds.one ?_ (by show nm.size≤48;omega)) (Rds.cons (Rds.word wNode _ (by decide)) (Rds.cons h1 (Rds.cons (Rds.word wClose _ (by decide)) h2)))));rw[take_name];simp only[lastD_snoc,setD_snoc];rw[if_neg (by rw[hn];simp),if_neg (by rw[ha];simp)]
theorem above_get:∀(ds:Ds) (p:ByteArray) (k:Nat),above ds p=k+1→∃h:k<ds.length,ds[k].1=p
 | [],p,k,h=>by simp[above]at h
 | d :: r,p,k,h=>by
  simp only[above]at h
  split at h
  ·obtain rfl:k=0:=by omega
   exact ⟨by simp,by assumption⟩
  ·split at h
   ·omega
   ·obtain ⟨j,rfl⟩:∃j,k=j+1:=⟨k - 1,by omega⟩;obtain ⟨h1,h2⟩:=above_get r p j (by omega);exact ⟨by simp;omega,by simpa using h2⟩
structure EH (l:List Nd) (D0:Ds) (P last:ByteArray) (Dx Z:Ds) (k:Nat):Prop where
 run:runF k Dx l=some Z
 k0:k≠0
 pref:D0++[(P,last)] <+: Dx
 inc:∀d∈D0,d.1.size<P.size
 head:∀n,l.head?=some n→above Dx (pre n.path)≤D0.length+1
theorem runF_cons {k:Nat} {Dx Z:Ds} {n:Nd} {r:List Nd} (h:runF k Dx (n :: r)=some Z):∃Dy,stepW k Dx n=some Dy∧runF (k+1) Dy r=some Z:=by
 simp only[runF]at h;cases hs:stepW k Dx n with
 | none=>rw[hs]at h;cases h
 | some Dy=>rw[hs]at h;exact ⟨Dy,rfl,h⟩
theorem pre_nam (s:ByteArray):pre s++nam s=s:=by
 apply ByteArray.ext;apply Array.toList_inj.1;rw[data_append,pre_data,nam_data,split_eq]
theorem prefixIn_size (s:ByteArray) (h:s.data.toList≠[]):(prefixIn s).size=s.size+1:=by
 unfold prefixIn;rw[if_neg h,ByteArray.size_append];rfl
theorem look_entry {n:Nd} {r:List Nd} {D0:Ds} {P last:ByteArray} {Dx Z:Ds} {k:Nat} (h:EH (n :: r) D0 P last Dx Z k) (hp:pre n.path=P) :
  k<30∧D0.length+1≤5∧fits n.kind n.data.data.toList=true∧isNameB (nam n.path).data.toList=true∧notAbove (nam n.path) last=false∧runF (k+1) (enterL (D0++[(P,nam n.path)]) n.path n.kind) r=some Z:=by
 obtain ⟨Dy,hs,hr⟩:=runF_cons h.run;unfold stepW at hs
 split at hs
 ·rename_i hc
  rw[if_neg h.k0]at hs;obtain ⟨ext,hext⟩:=h.pref;have hget:∀j (hj:j<Dx.length),j<D0.length→Dx[j].1≠P:=fun j hj hlt e=>by
   have:Dx[j]=D0[j]:=by
    subst hext;rw[List.getElem_append_left (by simp;omega),List.getElem_append_left hlt]
   rw[this]at e;have:=h.inc D0[j] (List.getElem_mem _);rw[e]at this;omega
  have hlen:D0.length<Dx.length:=by rw[← hext];simp
  have htop:Dx[D0.length]=(P,last):=by subst hext;simp
  have hab:above Dx P=D0.length+1:=above_at Dx P D0.length hlen (by rw[htop]) hget;have hgD:Dx.getD D0.length (⟨#[]⟩,⟨#[]⟩)=(P,last):=by simp[List.getD,hlen,htop]
  have htk:Dx.take (D0.length+1)=D0++[(P,last)]:=by
   subst hext;exact List.take_left' (by simp)
  unfold placeRest at hs;simp only[hp,hab,Nat.add_sub_cancel,hgD,htk]at hs
  split at hs
  ·cases hs
  ·rename_i h5
   split at hs
   ·cases hs
   ·rename_i hnm
    split at hs
    ·cases hs
    ·rename_i hna
     injection hs with hs
     have e:(D0++[(P,last)]).set D0.length (P,nam n.path)=D0++[(P,nam n.path)]:=by simp
     rw[e]at hs;subst hs;exact ⟨hc.1,by omega,hc.2,by simpa using hnm,by simpa using hna,hr⟩
 ·cases hs
theorem isName_ne (s:Bs) (h:isNameB s=true):s≠[]:=fun e=>by subst e;simp[isNameB,letters_nil]at h
theorem ents_read:∀(f:Nat) (l:List Nd) (D0:Ds) (P last:ByteArray) (Dx Z:Ds) (ns:List Nd) (p0:ByteArray),l.length≤f→EH l D0 P last Dx Z ns.length →
  ∃(cons:List Nd) (last':ByteArray) (Dx':Ds) (p':ByteArray),l=cons++(entsF f l P).2∧D0++[(P,last')] <+: Dx'∧runF (ns.length+cons.length) Dx' (entsF f l P).2=some Z∧(∀n,(entsF f l P).2.head?=some n→above Dx' (pre n.path)≤D0.length) ∧
   ∀(b:Bs) (g:Gr),Rds [.inDir] b ⟨ns++cons,D0++[(P,last')],p'⟩ g→Rds [.inDir] ((entsF f l P).1++b) ⟨ns,D0++[(P,last)],p0⟩ g
 | 0,l,D0,P,last,Dx,Z,ns,p0,hl,h=>by
  have:l=[]:=List.eq_nil_of_length_eq_zero (by omega);subst this;exact ⟨[],last,Dx,p0,rfl,h.pref,h.run,(fun n hn=>by cases hn),fun b g hb=>by simpa[entsF] using hb⟩
 | f+1,[],D0,P,last,Dx,Z,ns,p0,hl,h=>⟨[],last,Dx,p0,rfl,h.pref,h.run,(fun n hn=>by cases hn),fun b g hb=>by simpa[entsF] using hb⟩
 | f+1,n :: r,D0,P,last,Dx,Z,ns,p0,hl,h=>by
  by_cases hp:pre n.path=P
  ·obtain ⟨hk,h5,hf,hnm,hna,hrun⟩:=look_entry h hp;have hpath:P++nam n.path=n.path:=by rw[← hp,pre_nam]
   have hE1:(entsF (f+1) (n :: r) P).1=bytesOf [wEntry,wOpen,wName,nam n.path,wNode]++(nodeF (entsF f) n r).1++bytesOf [wClose]++(entsF f (nodeF (entsF f) n r).2 P).1:=by simp only[entsF,if_pos hp]
   have hE2:(entsF (f+1) (n :: r) P).2=(entsF f (nodeF (entsF f) n r).2 P).2:=by simp only[entsF,if_pos hp]
   rw[hE1,hE2];have hl':r.length≤f:=by simpa using hl
   have hDl:(D0++[(P,nam n.path)]).length≤5:=by simp;omega
   by_cases h4:n.kind=4
   ·obtain ⟨path,kind,data⟩:=n;simp only at h4 hf hp hpath hnm hna hrun hDl ⊢;subst h4;have hd:data=⟨#[]⟩:=by
     unfold fits at hf;simp at hf;apply ByteArray.ext;exact hf
    subst hd;have hen:enterL (D0++[(P,nam path)]) path 4=(D0++[(P,nam path)])++[(prefixIn path,⟨#[]⟩)]:=by unfold enterL;rw[if_pos rfl]
    rw[hen]at hrun;have hpne:path.data.toList≠[]:=by
     rw[← hpath,data_append];have:=isName_ne _ hnm;simp[this]
    have hps:path.size=P.size+(nam path).size:=by conv=>lhs;rw[← hpath,ByteArray.size_append]
    obtain ⟨c1,last1,Dx1,p1,e1,q1,r1,d1,t1⟩:=ents_read f r (D0++[(P,nam path)]) (prefixIn path) ⟨#[]⟩ _ Z (ns++[⟨path,4,⟨#[]⟩⟩]) path hl'
     ⟨by simpa using hrun,by simp,List.prefix_refl _,fun d hd=>by
      rw[prefixIn_size _ hpne];rcases List.mem_append.1 hd with hd | hd
      ·have:=h.inc d hd;omega
      ·rw[List.mem_singleton]at hd;subst hd;simp only;omega,fun m hm=>by have:=above_le ((D0++[(P,nam path)])++[(prefixIn path,⟨#[]⟩)]) (pre m.path);simpa using this⟩
    have hN2:(nodeF (entsF f) ⟨path,4,⟨#[]⟩⟩ r).2=(entsF f r (prefixIn path)).2:=by simp only[nodeF,bodyF,if_true]
    rw[hN2];have hlen2:(entsF f r (prefixIn path)).2.length≤f:=by
     have:=congrArg List.length e1;rw[List.length_append]at this;omega
    obtain ⟨c2,last2,Dx2,p2,e2,q2,r2,d2,t2⟩:=ents_read f (entsF f r (prefixIn path)).2 D0 P (nam path) Dx1 Z (ns++[⟨path,4,⟨#[]⟩⟩]++c1) p1 hlen2
     ⟨by simpa[Nat.add_assoc,Nat.add_comm 1] using r1,by simp,(List.prefix_append _ _).trans q1,h.inc,fun m hm=>by simpa using d1 m hm⟩
    refine ⟨⟨path,4,⟨#[]⟩⟩ :: c1++c2,last2,Dx2,p2,?_,q2,?_,d2,fun b g hb=>?_⟩
    ·rw[List.cons_append,List.cons_append,List.append_assoc,← e2,← e1]
    ·rw[show ns.length+((⟨path,4,⟨#[]⟩⟩:Nd) :: c1++c2).length=(ns++[(⟨path,4,⟨#[]⟩⟩:Nd)]++c1).length+c2.length by simp;omega];exact r2
    ·rw[List.append_assoc];refine rds_entry ns D0 P last (nam path) p0 _ _ ⟨ns++[⟨path,4,⟨#[]⟩⟩]++c1,D0++[(P,nam path)],p1⟩ g hnm hna ?_ (t2 b g (by simpa using hb));rw[hpath];refine rds_dir (entsF f) ns _ path r _ hDl (by omega) (t1 _ _ ?_);exact rds_end _ _ _ _
   ·have hen:enterL (D0++[(P,nam n.path)]) n.path n.kind=D0++[(P,nam n.path)]:=by unfold enterL;rw[if_neg h4]
    rw[hen]at hrun;rw[nodeF_leaf _ _ _ h4];obtain ⟨c2,last2,Dx2,p2,e2,q2,r2,d2,t2⟩:=ents_read f r D0 P (nam n.path) _ Z (ns++[n]) n.path hl'
     ⟨by simpa using hrun,by simp,List.prefix_refl _,h.inc,fun m hm=>by have:=above_le (D0++[(P,nam n.path)]) (pre m.path);simpa using this⟩
    refine ⟨n :: c2,last2,Dx2,p2,?_,q2,?_,d2,fun b g hb=>?_⟩
    ·rw[List.cons_append,← e2]
    ·rw[show ns.length+(n :: c2).length=(ns++[n]).length+c2.length by simp;omega];exact r2
    ·rw[List.append_assoc];refine rds_entry ns D0 P last (nam n.path) p0 _ _ ⟨ns++[n],D0++[(P,nam n.path)],n.path⟩ g hnm hna ?_ (t2 b g (by simpa using hb));rw[hpath];exact rds_leaf (entsF f) ns _ n r hDl (by omega) hf h4
  ·have hE:entsF (f+1) (n :: r) P=([],n :: r):=by simp only[entsF,if_neg hp]
   rw[hE];refine ⟨[],last,Dx,p0,rfl,h.pref,h.run,fun m hm=>?_,fun b g hb=>by simpa using hb⟩;have hm:n=m:=by simpa using hm
   subst hm;have h1:=h.head n rfl;rcases Nat.lt_or_ge (above Dx (pre n.path)) (D0.length+1) with hlt | hge
   ·omega
   ·obtain ⟨hh,he⟩:=above_get Dx (pre n.path) D0.length (by omega);obtain ⟨ext,hext⟩:=h.pref;have htop:Dx[D0.length]=(P,last):=by subst hext;simp
    rw[htop]at he;exact absurd he.symm hp
theorem look_zero {n:Nd} {r:List Nd} {Dx Z:Ds} {k:Nat} (hk:k≠0) (h:runF k Dx (n :: r)=some Z):above Dx (pre n.path)≠0:=by
 obtain ⟨Dy,hs,hr⟩:=runF_cons h;unfold stepW at hs
 split at hs
 ·first | rw[if_neg hk]at hs | skip
  intro e;unfold placeRest at hs;simp[e]at hs
 ·cases hs
theorem empty_of {s:ByteArray} (h:s.toList.isEmpty=true):s=⟨#[]⟩:=by
 rw[ByteArray.toList_eq]at h;apply ByteArray.ext;apply Array.toList_inj.1;simpa using h
theorem pack_reads (l:List Nd) (Z:Ds) (hne:l≠[]) (h:runF 0 [] l=some Z):∃g,g.nodes=l∧Rds [.word wNar,.bracket] (packBytes l) ⟨[],[],⟨#[]⟩⟩ g:=by
 cases l with
 | nil=>exact absurd rfl hne
 | cons n r=>
  obtain ⟨Dy,hs,hr⟩:=runF_cons h;unfold stepW at hs
  split at hs
  ·rename_i hc
   rw[if_pos rfl]at hs
   split at hs
   ·rename_i hpe
    injection hs with hs
    subst hs;have hpq:=empty_of hpe;clear hpe;have hpe:=hpq;clear hpq;have hpb:packBytes (n :: r)=enc wNar.data.toList++(nodeF (entsF r.length) n r).1:=by unfold packBytes;rw[bytes1]
    rw[hpb]
    by_cases h4:n.kind=4
    ·obtain ⟨path,kind,data⟩:=n;simp only at h4 hc hpe hr ⊢;subst h4;subst hpe;have hd:data=⟨#[]⟩:=by
      have hf:=hc.2;unfold fits at hf;simp at hf;apply ByteArray.ext;exact hf
     subst hd;have hen:enterL [] ⟨#[]⟩ 4=[]++[(prefixIn ⟨#[]⟩,⟨#[]⟩)]:=by unfold enterL;rw[if_pos rfl]
     rw[hen]at hr;obtain ⟨c1,last1,Dx1,p1,e1,q1,r1,d1,t1⟩:=ents_read r.length r [] (prefixIn ⟨#[]⟩) ⟨#[]⟩ _ Z [⟨⟨#[]⟩,4,⟨#[]⟩⟩] ⟨#[]⟩ (Nat.le_refl _)
      ⟨hr,by simp,List.prefix_refl _,(fun d hd=>by cases hd),fun m hm=>by have:=above_le ([]++[(prefixIn ⟨#[]⟩,(⟨#[]⟩:ByteArray))]) (pre m.path);simpa using this⟩
     have hl0:(entsF r.length r (prefixIn ⟨#[]⟩)).2=[]:=by
      cases hh:(entsF r.length r (prefixIn ⟨#[]⟩)).2 with
      | nil=>rfl
      | cons m t=>
       rw[hh]at r1 d1;have a1:=d1 m rfl;have a2:=look_zero (by simp) r1;simp only[List.length_nil]at a1;omega
     rw[hl0,List.append_nil]at e1;refine ⟨⟨⟨⟨#[]⟩,4,⟨#[]⟩⟩ :: c1,[],p1⟩,by rw[e1],?_⟩;refine Rds.cons (Rds.word wNar _ (by decide)) (rds_dir (entsF r.length) [] [] ⟨#[]⟩ r _ (by simp) (by simp) (t1 _ _ ?_));exact rds_end _ [] _ _
    ·have hen:enterL [] n.path n.kind=[]:=by unfold enterL;rw[if_neg h4]
     rw[hen]at hr;have hr0:r=[]:=by
      cases r with
      | nil=>rfl
      | cons m t=>have:=look_zero (by omega) hr;simp[above]at this
     subst hr0;refine ⟨⟨[n],[],n.path⟩,rfl,Rds.cons (Rds.word wNar _ (by decide)) ?_⟩;have:=rds_leaf (entsF 0) [] [] n [] (by simp) (by simp) hc.2 h4;rw[hpe]at this ⊢;exact this
   ·cases hs
  ·cases hs
theorem read_pack (l:List Nd) (Z:Ds) (hne:l≠[]) (h:runF 0 [] l=some Z):readF (packBytes l)=(l,0,0):=by
 obtain ⟨g,hg,hr⟩:=pack_reads l Z hne h;have:=hr [] 0;rw[List.append_nil]at this;rw[readF_run,this];simp[told,hg]
def cntD:List It→Nat
 | []=>0
 | .inDir :: r=>cntD r+1
 | _ :: r=>cntD r
def nok:List It→Prop
 | []=>True
 | .name :: r=>0<cntD r∧nok r
 | _ :: r=>nok r
def needN:It→Bool
 | .kind=>true
 | .inFile=>true
 | .data=>true
 | _=>false
structure Inv (st:St) (tot:Nat):Prop where
 sum:st.pos+st.left.length≤tot
 ll:st.list.length≤st.pos+2
 ln:st.gr.nodes.length≤30
 ld:st.gr.dirs.length≤st.pos
 lp:st.gr.path.size≤st.pos
 np:∀n∈st.gr.nodes,n.path.size≤st.pos
 dp:∀d∈st.gr.dirs,d.1.size≤st.pos
 cd:cntD st.list=st.gr.dirs.length
 nm:nok st.list
 nn:∀i∈st.list,needN i=true→st.gr.nodes≠[]
theorem ba_size (s:Bs):(⟨s.toArray⟩:ByteArray).size=s.length:=by simp[ByteArray.size]
theorem mem_setN {l:List Nd} {x n:Nd} (h:n∈setN l x):n∈l∨n=x:=List.mem_or_eq_of_mem_set h
theorem lastN_mem {l:List Nd} (h:l≠[]):lastN l∈l:=by
 have:=List.length_pos_iff.2 h;have hk:l.length - 1<l.length:=by omega
 unfold lastN;rw[List.getD_eq_getElem?_getD,List.getElem?_eq_getElem hk];exact List.getElem_mem _
theorem setN_len (l:List Nd) (x:Nd):(setN l x).length=l.length:=by simp[setN]
theorem setN_ne {l:List Nd} {x:Nd} (h:l≠[]):setN l x≠[]:=fun e=>by
 have:=congrArg List.length e;rw[setN_len]at this;exact h (List.eq_nil_of_length_eq_zero this)
theorem Inv.head {st:St} {tot:Nat} (h:Inv st tot) {i:It} {r:List It} (hl:st.list=i :: r):(needN i=true→st.gr.nodes≠[])∧(i=.inDir∨i=.name→st.gr.dirs≠[]):=by
 refine ⟨fun hn=>h.nn i (by rw[hl];exact List.mem_cons_self) hn,fun hi=>?_⟩;have hc:=h.cd;rw[hl]at hc;rcases hi with rfl | rfl
 ·intro e;rw[e]at hc;simp[cntD]at hc
 ·have hm:=h.nm;rw[hl]at hm;intro e;rw[e]at hc;simp only[cntD,List.length_nil]at hc;have:=hm.1;omega
theorem Inv.step {st st':St} {tot:Nat} (h:Inv st tot) (hs:stepF st=.go st'):Inv st' tot:=by
 have hgo:=stepF_go hs;obtain ⟨left,pos,list,gr⟩:=st;cases list with
 | nil=>
  simp only[stepF]at hs
  split at hs <;> cases hs
 | cons i r=>
  obtain ⟨hN,hD⟩:=h.head rfl;simp only at hN hD;simp only[stepF]at hs;cases hc:cutF left i.most with
  | wait=>rw[hc]at hs;cases hs
  | bad e=>rw[hc]at hs;cases hs
  | ok s rest n=>
   rw[hc]at hs;simp only at hs;have hcl:=cutF_len hc;cases ht:takeF gr i ⟨s.toArray⟩ with
   | err e=>rw[ht]at hs;cases hs
   | more g push=>
    rw[ht]at hs;simp only at hs;injection hs with hs
    subst hs;obtain ⟨hsum,hll,hln,hld,hlp,hnp,hdp,hcd,hnm,hnn⟩:=h;simp only[List.length_cons]at hsum hll hln hld hlp hnp hdp hcd hnm hnn hgo;have hnn':∀j∈r,needN j=true→gr.nodes≠[]:=fun j hj=>hnn j (List.mem_cons_of_mem _ hj)
    have hnp':∀x∈gr.nodes,x.path.size≤pos+n:=fun x hx=>by have:=hnp x hx;omega
    have hdp':∀d∈gr.dirs,d.1.size≤pos+n:=fun d hd=>by have:=hdp d hd;omega
    cases i with
    | word w=>
     rw[take_word]at ht
     split at ht
     ·injection ht with h1 h2;subst h1;subst h2
      exact ⟨by simp only;omega,by simp;omega,hln,by simp only;omega,by simp only;omega,hnp',hdp',hcd,hnm,hnn'⟩
     ·cases ht
    | bracket=>
     rw[take_bracket]at ht
     split at ht
     ·split at ht
      ·cases ht
      ·split at ht
       ·cases ht
       ·injection ht with h1 h2;subst h1;subst h2
        refine ⟨by simp only;omega,by simp;omega,by simp;omega,by simp only;omega,by simp only;omega,?_,hdp',hcd,hnm,?_⟩
        ·intro x hx;rcases List.mem_append.1 hx with hx | hx
         ·exact hnp' x hx
         ·rw[List.mem_singleton]at hx;subst hx;simp only;omega
        ·intro j _ _;simp
     ·cases ht
    | kind=>
     have hne:=hN rfl;have hlast:=hnp _ (lastN_mem hne);rw[take_kind]at ht
     split at ht
     ·injection ht with h1 h2;subst h1;subst h2
      refine ⟨by simp only;omega,by simp;omega,by simp only[setN_len];omega,by simp only;omega,by simp only;omega,?_,hdp',hcd,hnm,fun j _ _=>setN_ne hne⟩;intro x hx;rcases mem_setN hx with hx | rfl
      ·exact hnp' x hx
      ·simp only;omega
     ·split at ht
      ·injection ht with h1 h2;subst h1;subst h2
       refine ⟨by simp only;omega,by simp;omega,by simp only[setN_len];omega,by simp only;omega,by simp only;omega,?_,hdp',hcd,hnm,fun j _ _=>setN_ne hne⟩;intro x hx;rcases mem_setN hx with hx | rfl
       ·exact hnp' x hx
       ·simp only;omega
      ·split at ht
       ·injection ht with h1 h2;subst h1;subst h2
        refine ⟨by simp only;omega,by simp;omega,by simp only[setN_len];omega,by simp;omega,by simp only;omega,?_,?_,?_,hnm,fun j _ _=>setN_ne hne⟩
        ·intro x hx;rcases mem_setN hx with hx | rfl
         ·exact hnp' x hx
         ·simp only;omega
        ·intro d hd;rcases List.mem_append.1 hd with hd | hd
         ·exact hdp' d hd
         ·rw[List.mem_singleton]at hd;subst hd;simp only;unfold prefixIn
          split
          ·exact Nat.zero_le _
          ·rw[ByteArray.size_append];have:(⟨#[47]⟩:ByteArray).size=1:=rfl;omega
        ·simp only[List.cons_append,List.nil_append,cntD,List.length_append,List.length_singleton];have:cntD r=gr.dirs.length:=hcd;omega
       ·cases ht
    | inFile=>
     have hne:=hN rfl;have hlast:=hnp _ (lastN_mem hne);rw[take_inFile]at ht
     split at ht
     ·injection ht with h1 h2;subst h1;subst h2
      refine ⟨by simp only;omega,by simp;omega,by simp only[setN_len];omega,by simp only;omega,by simp only;omega,?_,hdp',hcd,hnm,fun j _ _=>setN_ne hne⟩;intro x hx;rcases mem_setN hx with hx | rfl
      ·exact hnp' x hx
      ·simp only;omega
     ·split at ht
      ·injection ht with h1 h2;subst h1;subst h2
       exact ⟨by simp only;omega,by simp;omega,hln,by simp only;omega,by simp only;omega,hnp',hdp',hcd,hnm,fun j _ _=>hne⟩
      ·cases ht
    | inDir=>
     have hcd':cntD r+1=gr.dirs.length:=hcd;rw[take_inDir]at ht
     split at ht
     ·injection ht with h1 h2;subst h1;subst h2
      refine ⟨by simp only;omega,by simp;omega,hln,by simp only;omega,by simp only;omega,hnp',hdp',hcd',⟨by simp[cntD],hnm⟩,?_⟩;intro j hj hn;simp at hj;rcases hj with rfl | rfl | rfl | rfl | rfl | rfl | rfl | hj
      all_goals first | cases hn | exact hnn' j hj hn
     ·split at ht
      ·injection ht with h1 h2;subst h1;subst h2
       refine ⟨by simp only;omega,by simp;omega,hln,by simp;omega,by simp only;omega,hnp',fun d hd=>hdp' d (List.mem_of_mem_take hd),?_,hnm,hnn'⟩;simp only[List.nil_append,List.length_take];omega
      ·cases ht
    | name=>
     rw[take_name]at ht;have hne:=hD (.inr rfl)
     split at ht
     ·cases ht
     ·split at ht
      ·cases ht
      ·injection ht with h1 h2;subst h1;subst h2
       have hld':(lastD gr.dirs).1.size≤pos:=by
        have hp:=List.length_pos_iff.2 hne;have hk:gr.dirs.length - 1<gr.dirs.length:=by omega
        have:lastD gr.dirs∈gr.dirs:=by
         unfold lastD;rw[List.getD_eq_getElem?_getD,List.getElem?_eq_getElem hk];exact List.getElem_mem _
        exact hdp _ this
       refine ⟨by simp only;omega,by simp;omega,hln,by simp[setD];omega,?_,hnp',?_,?_,hnm.2,hnn'⟩
       ·simp only[ByteArray.size_append,ba_size];omega
       ·intro d hd;rcases List.mem_or_eq_of_mem_set hd with hd | rfl
        ·exact hdp' d hd
        ·simp only;omega
       ·simp only[List.nil_append,setD,List.length_set];exact hcd
    | data=>
     have hne:=hN rfl;have hlast:=hnp _ (lastN_mem hne);rw[take_data]at ht
     split at ht
     ·injection ht with h1 h2;subst h1;subst h2
      refine ⟨by simp only;omega,by simp;omega,by simp only[setN_len];omega,by simp only;omega,by simp only;omega,?_,hdp',hcd,hnm,fun j _ _=>setN_ne hne⟩;intro x hx;rcases mem_setN hx with hx | rfl
      ·exact hnp' x hx
      ·simp only;omega
     ·cases ht
theorem Inv.add {st:St} {tot:Nat} (h:Inv st tot) (s:Bs):Inv (st.add s) (tot+s.length):=by
 obtain ⟨a,b,c,d,e,f,g,i,j,k⟩:=h;exact ⟨by simp[St.add];omega,b,c,d,e,f,g,i,j,k⟩
theorem Inv.init:Inv ⟨[],0,[.word wNar,.bracket],⟨[],[],⟨#[]⟩⟩⟩ 0:=
 ⟨by simp,by simp,by simp,by simp,Nat.le_refl _,(fun n hn=>by cases hn),(fun n hn=>by cases hn),rfl,trivial,fun i hi hn=>by
  simp at hi;rcases hi with rfl | rfl <;> cases hn⟩
end Go.Proofs.YticfcjmlphhpgaaGreatDoor
