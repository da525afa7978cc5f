import Derived.Test.YticfcjmlphhpgaaGreatDoorProg
import Derived.Test.YticfcjmlphhpgaaGreatDoorA02
import Derived.Test.YticfcjmlphhpgaaGreatDoorA04
import Derived.Test.YticfcjmlphhpgaaGreatDoorA05
import Derived.Test.YticfcjmlphhpgaaGreatDoorA12
import Derived.Shelf.SlIter.Nil
import Derived.Shelf.SortM.Plain
import Derived.Shelf.SortM.SortNone
import Derived.WalkKit
import Derived.WalkSpells
import Derived.WalkLawsBesides
import Derived.Laws.IdiomStrings
import Derived.Lib.AppendStr
import Derived.Lib.OthersKept
import Derived.Deep.QuietTactic
import Derived.BigQuiet
import Derived.Deep.RegionWith
set_option maxRecDepth 20000
set_option maxHeartbeats 4000000
namespace Go.Proofs.YticfcjmlphhpgaaGreatDoor
open Go.RowKit
theorem pre_dataV (s:ByteArray):(pre s).data.toList=preL s.data.toList:=by
 unfold pre preL;rw[Lib.extract_data];simp[cut]
theorem nam_dataV (s:ByteArray):(nam s).data.toList=namL s.data.toList:=by
 unfold nam namL;rw[Lib.extract_data];unfold cut;rw[List.take_of_length_le (by simp)]
theorem dirOf_data (s:ByteArray):(dirOf s).data.toList=dirL s.data.toList:=by
 unfold dirOf dirL cut
 split
 ·rfl
 ·rw[Lib.extract_data];simp
theorem prefixIn_dataV (s:ByteArray):(prefixIn s).data.toList=pin s.data.toList:=by
 unfold prefixIn pin
 split
 ·rfl
 ·rw[data_appendV]
theorem belowL_eq (p d:List UInt8):belowL p d=belL p d:=rfl
theorem isNameB_ne (l:Bs) (h:isNameB l=true):l≠[]:=fun e=>by subst e;exact absurd h (by decide)
def Rel (ds:List (ByteArray × ByteArray)) (D:List (Bs × Bs)):Prop:=ds.map (fun d=>(d.1.data.toList,d.2.data.toList))=D.map (fun d=>(pin d.1,d.2))
theorem Rel.len {ds:List (ByteArray × ByteArray)} {D:List (Bs × Bs)} (h:Rel ds D):ds.length=D.length:=by
 have:=congrArg List.length h;simpa using this
theorem Rel.get {ds:List (ByteArray × ByteArray)} {D:List (Bs × Bs)} (h:Rel ds D) (i:Nat) (hi:i<ds.length):∃d la,D[i]?=some (d,la)∧ds[i].1.data.toList=pin d∧ds[i].2.data.toList=la:=by
 have hi':i<D.length:=by rw[← h.len];exact hi
 refine ⟨D[i].1,D[i].2,List.getElem?_eq_getElem hi',?_⟩;have e:=congrArg (fun l=>l[i]?) h;simp only[List.getElem?_map,List.getElem?_eq_getElem hi,List.getElem?_eq_getElem hi',Option.map_some,Option.some.injEq,Prod.mk.injEq]at e;exact e
theorem above_someV:∀(ds:List (ByteArray × ByteArray)) (p:ByteArray) (a:Nat),above ds p=a+1→∃h:a<ds.length,ds[a].1=p
 | [],p,a,h=>by cases h
 | d :: r,p,a,h=>by
  simp only[above]at h
  split at h
  ·rename_i h0
   obtain rfl:a=0:=by omega
   exact ⟨by simp,h0⟩
  ·split at h
   ·cases h
   ·obtain ⟨b,rfl⟩:∃b,a=b+1:=⟨a - 1,by omega⟩;obtain ⟨hb,he⟩:=above_someV r p b (by omega);exact ⟨by simpa using hb,he⟩
theorem notAbove_eq (n l:ByteArray):notAbove n l=!(bl l.data.toList n.data.toList):=by
 unfold notAbove;rw[ByteArray.toList_eq,ByteArray.toList_eq];exact not_bl _ _
def Cond (l:List Nd) (x:Nd):Prop:=
 np x≠[]∧(np x).head?≠some 47∧isNameB (namL (np x))=true∧depthL (np x)≤5∧scan (dirL (np x)) (namL (np x)) l=some true
theorem rel_new (ds:List (ByteArray × ByteArray)) (D:List (Bs × Bs)) (h:Rel ds D) (a:Nat) (ha:a<ds.length) (d:Bs) (hd:ds[a].1.data.toList=pin d) (x:Nd) :
  Rel (enterL ((ds.take (a+1)).set a (ds[a].1,nam x.path)) x.path x.kind) (newD D a d (namL (np x)) x):=by
 have e1:(ds.take (a+1)).set a (ds[a].1,nam x.path)=ds.take a++[(ds[a].1,nam x.path)]:=by
  rw[List.take_succ_eq_append_getElem ha];have hl:(ds.take a).length=a:=by rw[List.length_take];omega
  rw[List.set_append_right _ _ (by omega),hl,Nat.sub_self];rfl
 have e2:(ds.take a).map (fun d=>(d.1.data.toList,d.2.data.toList))=(D.take a).map (fun d=>(pin d.1,d.2)):=by
  rw[List.map_take,List.map_take,h]
 rw[e1];unfold Rel enterL newD
 split
 ·rw[List.map_append,List.map_append,List.map_append,List.map_append,e2];simp[hd,nam_dataV,prefixIn_dataV,np]
 ·rw[List.map_append,List.append_nil,List.map_append,e2];simp[hd,nam_dataV,np]
theorem place_yes (ds:List (ByteArray × ByteArray)) (D:List (Bs × Bs)) (l:List Nd) (hI:OInv l D) (hR:Rel ds D) (x:Nd) (ds':List (ByteArray × ByteArray)) (h:placeRest ds x.path x.kind=some ds') :
  Cond l x∧∃D',OInv (l++[x]) D'∧Rel ds' D':=by
 unfold placeRest at h;simp only at h
 split at h
 ·cases h
 ·rename_i h1
  split at h
  ·cases h
  ·rename_i h2
   split at h
   ·cases h
   ·rename_i h3
    obtain ⟨a,ha⟩:∃a,above ds (pre x.path)=a+1:=⟨above ds (pre x.path) - 1,by omega⟩;obtain ⟨hal,hap⟩:=above_someV ds _ a ha;obtain ⟨d,la,hD,hd1,hd2⟩:=hR.get a hal;rw[ha]at h h1 h3;simp only[Nat.add_sub_cancel]at h h3;have hgD:ds.getD a (⟨#[]⟩,⟨#[]⟩)=ds[a]:=by simp[List.getD,hal]
    rw[hgD]at h h3;have hnm:isNameB (namL (np x))=true:=by
     rw[nam_dataV]at h2;cases hh:isNameB (namL x.path.data.toList) with
     | true=>exact hh
     | false=>exact absurd hh h2
    have hne:=isNameB_ne _ hnm;have h47:=namL_no (np x);have hpx:np x=pin d++namL (np x):=by
     conv=>lhs;rw[← split_eq (np x)]
     rw[← hd1,hap,pre_dataV];rfl
    have hlt:bl la (namL (np x))=true:=by
     rw[notAbove_eq,hd2,nam_dataV]at h3;cases hh:bl la (namL (np x)) with
     | true=>rfl
     | false=>exact absurd (by rw[show namL x.path.data.toList=namL (np x) from rfl,hh];rfl) h3
    have hdir:dirL (np x)=d:=by
       conv=>lhs;rw[hpx]
       exact dirL_path d _ h47
    refine ⟨⟨?_,?_,hnm,?_,?_⟩,newD D a d (namL (np x)) x,hI.step x a d la _ hD hpx hne h47 hlt,?_⟩
    ·rw[hpx];simp[hne]
    ·by_cases hdn:d=[]
     ·rw[hpx,hdn,pin_nil,List.nil_append];intro hh;exact h47 (List.mem_of_mem_head? (by rw[hh];rfl))
     ·have:=hI.head hD;rw[hpx,pin_ne d hdn];cases d with
      | nil=>exact absurd rfl hdn
      | cons c t=>simpa using this
    ·unfold depthL;rw[if_neg (by rw[hpx];simp[hne])];have:(np x).count 47=a:=by
      conv=>lhs;rw[hpx]
      rw[List.count_append,hI.depth a d la hD,List.count_eq_zero.2 h47];rfl
     omega
    ·rw[hdir];exact (hI.yes a d la hD _ hne).2 hlt
    ·cases h;exact rel_new ds D hR a hal d hd1 x
theorem place_no (ds:List (ByteArray × ByteArray)) (D:List (Bs × Bs)) (l:List Nd) (hI:OInv l D) (hR:Rel ds D) (x:Nd) (hc:Cond l x):placeRest ds x.path x.kind≠none:=by
 obtain ⟨h1,h2,h3,h4,h5⟩:=hc;obtain ⟨i,d,la,hD,hd⟩:∃(i:Nat) (d la:Bs),D[i]?=some (d,la)∧d=dirL (np x):=by
  by_cases hh:∃(i:Nat) (d la:Bs),D[i]?=some (d,la)∧d=dirL (np x)
  ·exact hh
  ·exact absurd h5 (hI.no _ _ (fun i d la hD e=>hh ⟨i,d,la,hD,e⟩))
 have hne:=isNameB_ne _ h3;have hpre:=preL_dir (np x) h2;have hi:i<ds.length:=by rw[hR.len];exact (List.getElem?_eq_some_iff.1 hD).1
 have hsame:∀j (hj:j<ds.length),ds[j].1=pre x.path↔j=i:=fun j hj=>by
  obtain ⟨d',la',hD',hd1,_⟩:=hR.get j hj;refine ⟨fun e=>?_,fun e=>?_⟩
  ·rw[e,pre_dataV]at hd1;have:pin d'=pin d:=by rw[← hd1,hd];exact hpre
   have:=pin_inj _ _ this;subst this;exact hI.inj hD' hD
  ·subst e;rw[hD]at hD';cases hD';exact WideShapes.bytes_inj (by rw[hd1,pre_dataV,hd];exact hpre.symm)
 have hab:above ds (pre x.path)=i+1:=above_at ds _ i hi ((hsame i hi).2 rfl) (fun j hj hlt e=>by have:=(hsame j hj).1 e;omega);obtain ⟨d',la',hD',hd1,hd2⟩:=hR.get i hi;rw[hD]at hD';cases hD';have hdep:i+1≤5:=by
  have hpx:np x=pin d++namL (np x):=by
   conv=>lhs;rw[← split_eq (np x)]
   rw[hpre,hd]
  unfold depthL at h4;rw[if_neg h1]at h4;have:(np x).count 47=i:=by
   conv=>lhs;rw[hpx]
   rw[List.count_append,hI.depth i d la hD,List.count_eq_zero.2 (namL_no _)];rfl
  omega
 have hlt:bl la (namL (np x))=true:=(hI.yes i d la hD _ hne).1 (by rw[hd];exact h5);unfold placeRest;simp only[hab];rw[if_neg (by omega),if_neg (by rw[nam_dataV];intro e;rw[show namL x.path.data.toList=namL (np x) from rfl,h3]at e;cases e)];simp only[Nat.add_sub_cancel];have hgD:ds.getD i (⟨#[]⟩,⟨#[]⟩)=ds[i]:=by simp[List.getD,hi]
 rw[hgD,if_neg (by rw[notAbove_eq,hd2,nam_dataV,show namL x.path.data.toList=namL (np x) from rfl,hlt];decide)];simp
def condB (l:List Nd) (x:Nd):Bool:=!((np x).isEmpty || (np x).head? == some 47 || !(isNameB (namL (np x))) || decide (5<depthL (np x))) && (scan (dirL (np x)) (namL (np x)) l == some true)
theorem condB_iff (l:List Nd) (x:Nd):condB l x=true↔Cond l x:=by
 unfold condB Cond;simp only[Bool.and_eq_true,Bool.not_eq_true',Bool.or_eq_false_iff,beq_iff_eq,decide_eq_false_iff_not,Bool.not_eq_false',Nat.not_lt,beq_eq_false_iff_ne,List.isEmpty_eq_false_iff,and_assoc]
def rightB (l:List Nd) (x:Nd):Bool:=decide (l.length<30) && fits x.kind x.data.data.toList && (if l=[] then (np x).isEmpty else condB l x)
def wrongGo (l:List Nd):List Nd→Option Nat
 | []=>none
 | x :: r=>if rightB l x=true then wrongGo (l++[x]) r else some l.length
def refWrong (ns:List Nd):Option Nat:=if ns=[] then some 0 else wrongGo [] ns
theorem fw_rest:∀(rest l:List Nd) (ds:List (ByteArray × ByteArray)) (D:List (Bs × Bs)),l≠[]→OInv l D→Rel ds D→fwGo l.length ds rest=wrongGo l rest
 | [],l,ds,D,_,_,_=>rfl
 | x :: r,l,ds,D,hl,hI,hR=>by
  have hl0:¬ l.length=0:=fun e=>hl (List.eq_nil_of_length_eq_zero e)
  simp only[fwGo,wrongGo,rightB,if_neg hl]
  by_cases h1:l.length<30
  ·by_cases h2:fits x.kind x.data.data.toList=true
   ·rw[if_pos ⟨h1,h2⟩,if_neg hl0,decide_eq_true h1,h2];simp only[Bool.true_and];cases hp:placeRest ds x.path x.kind with
    | some ds'=>
     obtain ⟨hc,D',hI',hR'⟩:=place_yes ds D l hI hR x ds' hp;rw[if_pos ((condB_iff l x).2 hc)];have:=fw_rest r (l++[x]) ds' D' (by simp) hI' hR';simpa using this
    | none=>
     rw[if_neg (fun h=>place_no ds D l hI hR x ((condB_iff l x).1 h) hp)]
   ·rw[if_neg (fun h=>h2 h.2)];have:fits x.kind x.data.data.toList=false:=by simpa using h2
    rw[this];simp
  ·rw[if_neg (fun h=>h1 h.1),decide_eq_false h1];simp
theorem inv_root (x:Nd) (hx:np x=[]):OInv [x] (if x.kind=4 then [([],[])] else []):=by
 by_cases hk:x.kind=4
 ·rw[if_pos hk];refine ⟨?_,?_,?_,?_,?_⟩
  ·intro d la h;simp at h;exact h.1
  ·intro i d la d' la' _ h;simp at h
  ·intro i d la h name hn;cases i with
   | succ i=>simp at h
   | zero=>
    simp at h;obtain ⟨rfl,rfl⟩:=h;rw[show scan ([]:Bs) name [x]=some true by simp[scan,stepS,hx,hk]];exact ⟨fun _=>bl_empty name hn,fun _=>rfl⟩
  ·intro dir name hno;have hd:([]:Bs)≠dir:=hno 0 [] [] rfl;have:scan dir name [x]=some false:=by simp[scan,stepS,hx,hd]
   rw[this];simp
  ·intro y hy i d la h c hc;rw[List.mem_singleton]at hy;subst hy;cases i with
   | succ i=>simp at h
   | zero=>
    simp at h;obtain ⟨rfl,rfl⟩:=h;rw[hx]at hc;simp[firstC,pin_nil]at hc;exact .inl hc
 ·rw[if_neg hk];refine ⟨?_,?_,?_,?_,?_⟩
  ·intro d la h;simp at h
  ·intro i d la d' la' h;simp at h
  ·intro i d la h;simp at h
  ·intro dir name _;have:scan dir name [x]=some false:=by simp[scan,stepS,hk]
   rw[this];simp
  ·intro y _ i d la h;simp at h
theorem rel_root (x:Nd) (hx:np x=[]):Rel (enterL [] x.path x.kind) (if x.kind=4 then [([],[])] else []):=by
 unfold Rel enterL
 split
 ·have:(prefixIn x.path).data.toList=[]:=by rw[prefixIn_dataV,show x.path.data.toList=[] from hx];rfl
  simp[this,pin_nil]
 ·rfl
theorem firstW_eq (ns:List Nd):firstW ns=refWrong ns:=by
 unfold firstW refWrong;cases ns with
 | nil=>rfl
 | cons x r=>
  rw[if_neg (by simp),if_neg (by simp)];simp only[fwGo,wrongGo,rightB,List.length_nil,if_true]
  by_cases h2:fits x.kind x.data.data.toList=true
  ·rw[if_pos ⟨by omega,h2⟩,h2]
   by_cases hp:x.path.toList.isEmpty=true
   ·have hx:np x=[]:=by rw[ByteArray.toList_eq]at hp;exact List.isEmpty_iff.1 hp
    rw[if_pos hp,hx];have:=fw_rest r [x] _ _ (by simp) (inv_root x hx) (rel_root x hx);simpa using this
   ·have hx:(np x).isEmpty=false:=by rw[ByteArray.toList_eq]at hp;simpa[np] using hp
    rw[if_neg hp,hx];simp
  ·rw[if_neg (fun h=>h2 h.2)];have:fits x.kind x.data.data.toList=false:=by simpa using h2
   rw[this];simp
def wFileM:ByteArray:=⟨#[102,105,108,101]⟩
def wLinkM:ByteArray:=⟨#[108,105,110,107]⟩
def wDirM:ByteArray:=⟨#[100,105,114]⟩
def under (c y:Nd):Bool:=belL (np y) (np c)
def refN (E:List Nd→Bs) (x:Nd) (F:List Nd):Bs:=
 bytesOf [wOpen,wType]++(if x.kind=1 then bytesOf [wFileM,wData,x.data] else if x.kind=2 then bytesOf [wFileM,wExec,wNone,wData,x.data] else if x.kind=3 then bytesOf [wLinkM,wTo,x.data] else bytesOf [wDirM]++E F)++bytesOf [wClose]
def refE:Nat→List Nd→Bs
 | 0,_=>[]
 | _+1,[]=>[]
 | f+1,c :: F=>bytesOf [wEntry,wOpen,wName,nam c.path,wNode]++refN (refE f) c (F.takeWhile (under c))++bytesOf [wClose]++refE f (F.dropWhile (under c))
def refBytes:List Nd→Bs
 | []=>[]
 | x :: F=>bytesOf [wNar]++refN (refE F.length) x F
theorem scan_true (dir name:Bs):∀(n:Nat) (l:List Nd),l.length=n→scan dir name l=some true→∃A q B,l=A++q :: B∧np q=dir∧q.kind=4∧∀z∈B,belL (np z) dir=true
 | 0,l,hl,h=>by
  rw[List.eq_nil_of_length_eq_zero hl]at h;cases h
 | n+1,l,hl,h=>by
  rcases List.eq_nil_or_concat l with rfl | ⟨l',x,rfl⟩
  ·simp at hl
  ·rw[List.concat_eq_append]at h hl ⊢;rw[scan_snoc]at h
   by_cases hc:np x=dir∧x.kind=4
   ·exact ⟨l',x,[],rfl,hc.1,hc.2,fun z hz=>by cases hz⟩
   ·cases hs:scan dir name l' with
    | none=>rw[hs]at h;cases h
    | some b=>
     rw[hs]at h;cases b with
     | false=>simp[stepS,hc]at h
     | true=>
      obtain ⟨A,q,B,rfl,h1,h2,h3⟩:=scan_true dir name n l' (by simpa using hl) hs;have hb:belL (np x) dir=true:=by
       cases hb:belL (np x) dir with
       | true=>rfl
       | false=>simp[stepS,hc,hb]at h
      refine ⟨A,q,B++[x],by simp,h1,h2,fun z hz=>?_⟩;rcases List.mem_append.1 hz with hz | hz
      ·exact h3 z hz
      ·rw[List.mem_singleton]at hz;subst hz;exact hb
def Wf (y:Nd):Prop:=np y=pin (dirL (np y))++namL (np y)∧namL (np y)≠[]
def Good (d:Bs) (F:List Nd):Prop:=∀A y B,F=A++y :: B→Wf y∧belL (np y) d=true ∧
 (dirL (np y)=d∨∃A1 q A2,A=A1++q :: A2∧np q=dirL (np y)∧q.kind=4∧∀z∈A2,belL (np z) (np q)=true)
theorem wf_below (y:Nd) (h:Wf y):belL (np y) (dirL (np y))=true:=by
 have:=below_of (dirL (np y)) (namL (np y)) h.2
 rwa [← h.1]at this
theorem not_under (c y:Nd) (hc:Wf c) (hy:Wf y) (he:dirL (np c)=dirL (np y)):under c y=false:=by
 cases h:under c y with
 | false=>rfl
 | true=>
  have hne:np c≠[]:=by rw[hc.1];simp[hc.2]
  obtain ⟨r,hr⟩:=below_elim _ _ hne h;rw[hy.1,hc.1,he,List.append_assoc,List.append_assoc]at hr;have:=List.append_cancel_left hr;exact absurd (by rw[this];simp) (namL_no (np y))
theorem Good.head {d:Bs} {c:Nd} {F:List Nd} (h:Good d (c :: F)):Wf c∧belL (np c) d=true∧dirL (np c)=d:=by
 obtain ⟨h1,h2,h3⟩:=h [] c F rfl;refine ⟨h1,h2,?_⟩;rcases h3 with h3 | ⟨A1,q,A2,h4,_⟩
 ·exact h3
 ·simp at h4
theorem mem_tw {p:Nd→Bool}:∀{l:List Nd} {y:Nd},y∈l.takeWhile p→p y=true
 | [],y,h=>by simp at h
 | a :: r,y,h=>by
  cases hp:p a with
  | false=>simp[hp]at h
  | true=>
   simp only[List.takeWhile_cons,hp,if_true,List.mem_cons]at h;rcases h with rfl | h
   ·exact hp
   ·exact mem_tw h
theorem split_while (c:Nd) (F:List Nd):F=F.takeWhile (under c)++F.dropWhile (under c):=List.takeWhile_append_dropWhile.symm
theorem Good.sub {d:Bs} {c:Nd} {F:List Nd} (h:Good d (c :: F)):Good (np c) (F.takeWhile (under c)):=by
 obtain ⟨hc1,hc2,hc3⟩:=h.head;intro A y B e;have hmem:y∈F.takeWhile (under c):=by rw[e];simp
 have hu:under c y=true:=mem_tw hmem;obtain ⟨h1,h2,h3⟩:=h (c :: A) y (B++F.dropWhile (under c)) (by
  conv=>lhs;rw[split_while c F,e]
  simp)
 refine ⟨h1,hu,?_⟩;rcases h3 with h3 | ⟨A1,q,A2,h4,h5,h6,h7⟩
 ·exact absurd hu (by rw[not_under c y hc1 h1 (by rw[hc3,h3])];decide)
 ·cases A1 with
  | nil=>
   simp at h4
   left
   rw[h4.1];exact h5.symm
  | cons a A1=>
   simp at h4;exact .inr ⟨A1,q,A2,h4.2,h5,h6,h7⟩
theorem Good.flat {d:Bs} {c:Nd} {F:List Nd} (h:Good d (c :: F)) (hk:c.kind≠4):F.takeWhile (under c)=[]:=by
 obtain ⟨hc1,hc2,hc3⟩:=h.head;cases hs:F.takeWhile (under c) with
 | nil=>rfl
 | cons y B=>
  exfalso;have hmem:y∈F.takeWhile (under c):=by rw[hs];simp
  have hu:under c y=true:=mem_tw hmem;obtain ⟨h1,h2,h3⟩:=h [c] y (B++F.dropWhile (under c)) (by
   conv=>lhs;rw[split_while c F,hs]
   simp)
  rcases h3 with h3 | ⟨A1,q,A2,h4,h5,h6,h7⟩
  ·exact absurd hu (by rw[not_under c y hc1 h1 (by rw[hc3,h3])];decide)
  ·cases A1 with
   | nil=>simp at h4;exact hk (by rw[h4.1];exact h6)
   | cons a A1=>simp at h4
theorem drop_head (c:Nd) (F:List Nd) (z:Nd) (A:List Nd) (h:F.dropWhile (under c)=z :: A):under c z=false:=by
 have:=List.head?_dropWhile_not (under c) F;rw[h]at this;simpa using this
theorem Good.rest {d:Bs} {c:Nd} {F:List Nd} (h:Good d (c :: F)):Good d (F.dropWhile (under c)):=by
 obtain ⟨hc1,hc2,hc3⟩:=h.head;intro A y B e;obtain ⟨h1,h2,h3⟩:=h (c :: F.takeWhile (under c)++A) y B (by
  conv=>lhs;rw[split_while c F,e]
  simp)
 refine ⟨h1,h2,?_⟩;rcases h3 with h3 | ⟨A1,q,A2,h4,h5,h6,h7⟩
 ·exact .inl h3
 ·have hq:q∈c :: F.takeWhile (under c)→∀z,belL (np z) (np q)=true→under c z=true:=fun hq z hz=>by
   rcases List.mem_cons.1 hq with rfl | hq
   ·exact hz
   ·exact below_trans _ _ _ hz (mem_tw hq)
  have hyq:belL (np y) (np q)=true:=by rw[h5];exact wf_below y h1
  have hcase:(∃a',A=a'++q :: A2)∨(q∈c :: F.takeWhile (under c)∧∃S,A2=S++A):=by
   rcases List.append_eq_append_iff.1 h4 with ⟨a',e1,e2⟩ | ⟨c',e1,e2⟩
   ·exact .inl ⟨a',e2⟩
   ·cases c' with
    | nil=>exact .inl ⟨[],by simpa using e2.symm⟩
    | cons b S=>
     simp at e2;refine .inr ⟨by rw[e1,e2.1];simp,S,e2.2⟩
  rcases hcase with ⟨a',e1⟩ | ⟨hqm,S,e1⟩
  ·exact .inr ⟨a',q,A2,e1,h5,h6,h7⟩
  ·exfalso;cases A with
   | nil=>
    have:=drop_head c F y B e;rw[hq hqm y hyq]at this;cases this
   | cons z A=>
    have:=drop_head c F z _ e;rw[hq hqm z (h7 z (by rw[e1];simp))]at this;cases this
theorem node_eq (E:List Nd→ByteArray→List UInt8 × List Nd) (E':List Nd→Bs) (x:Nd) (sub tail:List Nd) (hk:x.kind=1∨x.kind=2∨x.kind=3∨x.kind=4)
  (h4:x.kind=4→E (sub++tail) (prefixIn x.path)=(E' sub,tail)) (hs:x.kind≠4→sub=[]):nodeF E x (sub++tail)=(refN E' x sub,tail):=by
 unfold nodeF bodyF refN;rcases hk with h | h | h | h
 ·have:=hs (by omega);subst this;simp[h,bytesOf,encs,wordOf,wFileM,List.append_assoc]
 ·have:=hs (by omega);subst this;simp[h,bytesOf,encs,wordOf,wFileM,List.append_assoc]
 ·have:=hs (by omega);subst this;simp[h,bytesOf,encs,wordOf,wLinkM,List.append_assoc]
 ·have e4:=h4 h;simp[h,e4,bytesOf,encs,wordOf,wDirM,List.append_assoc]
theorem ents_eq:∀(n:Nat) (F:List Nd) (d:Bs) (dB:ByteArray) (R:List Nd) (f g:Nat),F.length≤n→dB.data.toList=pin d→Good d F→Kinds F →
  (∀y R',R=y :: R'→Wf y∧belL (np y) d=false)→(F++R).length≤f→F.length≤g→entsF f (F++R) dB=(refE g F,R)
 | n,[],d,dB,R,f,g,_,hdB,_,_,hR,hf,_=>by
  have hg:refE g []=[]:=by cases g <;> rfl
  rw[List.nil_append,hg];cases R with
  | nil=>cases f <;> rfl
  | cons y R'=>
   cases f with
   | zero=>simp at hf
   | succ f=>
    obtain ⟨hw,hb⟩:=hR y R' rfl;have:pre y.path≠dB:=fun e=>by
     have e1:preL (np y)=pin d:=by rw[← hdB,← e,pre_dataV];rfl
     have e2:np y=pin d++namL (np y):=by conv=>lhs;rw[← split_eq (np y),e1]
     have:=below_of d (namL (np y)) hw.2;rw[← e2,hb]at this;cases this
    simp[entsF,this]
 | 0,c :: F,d,dB,R,f,g,hn,_,_,_,_,_,_=>by simp at hn
 | n+1,c :: F,d,dB,R,f,g,hn,hdB,hG,hK,hR,hf,hg=>by
  obtain ⟨hc1,hc2,hc3⟩:=hG.head;cases f with
  | zero=>simp at hf
  | succ f=>
   cases g with
   | zero=>simp at hg
   | succ g=>
    have hln:F.length≤n:=by simpa using hn
    have hlg:F.length≤g:=by simpa using hg
    have hlf:F.length+R.length≤f:=by simp at hf;omega
    have hpre:pre c.path=dB:=WideShapes.bytes_inj (by
     rw[pre_dataV,hdB];have:np c=pin d++namL (np c):=by conv=>lhs;rw[hc1.1,hc3]
     show preL (np c)=_;rw[this];exact preL_path d _ (namL_no _))
    have hsp:=split_while c F;have hls:(F.takeWhile (under c)).length+(F.dropWhile (under c)).length=F.length:=by rw[← List.length_append,← hsp]
    have hKs:Kinds (F.takeWhile (under c)):=fun y hy=>hK y (List.mem_cons_of_mem _ ((List.takeWhile_sublist _).subset hy))
    have hKr:Kinds (F.dropWhile (under c)):=fun y hy=>hK y (List.mem_cons_of_mem _ ((List.dropWhile_sublist _).subset hy))
    have hR2:∀y R',F.dropWhile (under c)++R=y :: R'→Wf y∧belL (np y) (np c)=false:=fun y R' e=>by
     cases hr:F.dropWhile (under c) with
     | nil=>
      rw[hr,List.nil_append]at e;obtain ⟨g1,g2⟩:=hR y R' e;refine ⟨g1,?_⟩;cases hb:belL (np y) (np c) with
      | false=>rfl
      | true=>rw[below_trans _ _ _ hb hc2]at g2;cases g2
     | cons z A=>
      rw[hr,List.cons_append]at e;cases e;exact ⟨(hG.rest [] y A (by rw[hr];rfl)).1,drop_head c F y A hr⟩
    have hcn:np c≠[]:=by rw[hc1.1];simp[hc1.2]
    have hnode:nodeF (entsF f) c (F++R)=(refN (refE g) c (F.takeWhile (under c)),F.dropWhile (under c)++R):=by
     have e:F++R=F.takeWhile (under c)++(F.dropWhile (under c)++R):=by rw[← List.append_assoc,← hsp]
     rw[e];refine node_eq (entsF f) (refE g) c _ _ (hK c (List.mem_cons_self)) (fun _=>?_) (fun hk=>hG.flat hk);exact ents_eq n _ (np c) (prefixIn c.path) _ f g (by omega) (prefixIn_dataV c.path) hG.sub hKs hR2 (by simp only[List.length_append];omega) (by omega)
    have hrest:=ents_eq n (F.dropWhile (under c)) d dB R f g (by omega) hdB hG.rest hKr hR (by simp only[List.length_append];omega) (by omega);simp only[List.cons_append,entsF,if_pos hpre,hnode,hrest,refE]
theorem wrongGo_all:∀(rest l:List Nd),wrongGo l rest=none→∀A y B,rest=A++y :: B→rightB (l++A) y=true
 | [],l,_,A,y,B,e=>by simp at e
 | x :: r,l,h,A,y,B,e=>by
  simp only[wrongGo]at h
  split at h
  ·rename_i h1
   cases A with
   | nil=>simp at e;rw[List.append_nil,← e.1];exact h1
   | cons a A=>
    simp at e;have:=wrongGo_all r (l++[x]) h A y B e.2;rw[← e.1];simpa using this
  ·cases h
theorem good_root (x:Nd) (F:List Nd) (h:wrongGo [] (x :: F)=none):np x=[]∧(x.kind=4→Good [] F)∧Kinds (x :: F):=by
 have hall:=wrongGo_all _ _ h;have hx:=hall [] x F rfl;simp only[List.nil_append,rightB,if_true,Bool.and_eq_true]at hx;have hx0:np x=[]:=by simpa using hx.2
 refine ⟨hx0,fun hk=>?_,fun y hy=>?_⟩
 ·intro A y B e;have hy:=hall (x :: A) y B (by rw[e];simp);simp only[List.nil_append,rightB,Bool.and_eq_true]at hy;rw[if_neg (by simp)]at hy;obtain ⟨h1,h2,h3,h4,h5⟩:=(condB_iff _ _).1 hy.2;have hw:Wf y:=⟨by conv=>lhs;rw[← split_eq (np y),preL_dir _ h2],isNameB_ne _ h3⟩;refine ⟨hw,?_,?_⟩
  ·unfold belL;rw[if_pos rfl];cases hh:np y with | nil=>exact absurd hh h1 | cons a b=>rfl
  ·obtain ⟨A1,q,A2,e1,g1,g2,g3⟩:=scan_true _ _ _ _ rfl h5;cases A1 with
   | nil=>simp at e1;left;rw[← g1,← e1.1];exact hx0
   | cons a A1=>simp at e1;exact .inr ⟨A1,q,A2,e1.2,g1,g2,by rw[g1];exact g3⟩
 ·obtain ⟨A,B,e⟩:=List.append_of_mem hy;have hy:=hall A y B e;simp only[rightB,Bool.and_eq_true]at hy;exact fits_kind _ _ hy.1.2
theorem packBytes_eq (ns:List Nd) (h:refWrong ns=none):packBytes ns=refBytes ns:=by
 unfold refWrong at h;cases ns with
 | nil=>cases h
 | cons x F=>
  rw[if_neg (by simp)]at h;obtain ⟨hx,hG,hK⟩:=good_root x F h;have hKF:Kinds F:=fun y hy=>hK y (List.mem_cons_of_mem _ hy)
  have hk:=hK x (List.mem_cons_self);simp only[packBytes,refBytes]
  by_cases h4:x.kind=4
  ·have e:=ents_eq F.length F [] (prefixIn x.path) [] F.length F.length (Nat.le_refl _) (by rw[prefixIn_dataV];rw[show x.path.data.toList=[] from hx]) (hG h4) hKF (fun y R' e=>by cases e) (by simp) (Nat.le_refl _);have:=node_eq (entsF F.length) (refE F.length) x F [] hk (fun _=>e) (fun hn=>absurd h4 hn);rw[List.append_nil]at this;rw[this]
  ·have:=node_eq (entsF F.length) (refE F.length) x [] F hk (fun hn=>absurd hn h4) (fun _=>rfl);rw[List.nil_append]at this;rw[this];have e:refN (refE F.length) x []=refN (refE F.length) x F:=by
    unfold refN;rcases hk with hh | hh | hh | hh
    ·simp[hh]
    ·simp[hh]
    ·simp[hh]
    ·exact absurd hh h4
   rw[e]
end Go.Proofs.YticfcjmlphhpgaaGreatDoor
namespace Go.Proofs.YticfcjmlphhpgaaGreatDoor
open Go.RowKit Go.Maps
theorem own_sl {w:World} {base size n:Nat} {e:TypeId} {v:Value} {xs:List Value} (h:w.ownsRow base e size v n xs):∃a cap,v=.slice a n cap∧n≤cap:=by
 rcases h.2 with ⟨rfl,rfl⟩ | ⟨g,cap,_,hv,_,_,hn,_⟩
 ·exact ⟨_,_,rfl,Nat.le_refl _⟩
 ·exact ⟨_,cap,hv,hn⟩
theorem own_strs {w:World} {B:Nat} {v:Value} {ss:List ByteArray} (h:w.ownsRow B 9 1 v ss.length (ss.map Value.string)):SliceS w v ss:=by
 rcases h.2 with ⟨hv,h0⟩ | ⟨g,cap,cur,hv,hg1,hg2,hg3,hg4,hg5,hg6⟩
 ·have:ss=[]:=List.eq_nil_of_length_eq_zero h0;subst this;exact ⟨none,0,hv,by simp,fun h=>by simp at h⟩
 ·have hlt:=lt_of_block hg2;refine ⟨_,cap,hv,hg3,fun _=>⟨g,0,rfl,hlt,fun j hj=>?_⟩⟩;subst hv;rw[Nat.zero_add];exact (h.cellAt j (by omega)).trans (by simp[hj])
def lackS (S:List Ent) (p r:ByteArray):Bool:=!decide (r=p) && (findS S r).isNone
def insertF (S:List Ent) (x:Ent):Int × List Ent:=
 if isPathB x.path.data.toList=false then (11,S)
 else if (firstW x.nodes).isSome=true then (1,S)
 else if riseL x.refs=false then (7,S)
 else if x.refs.any (lackS S x.path)=true then (13,S)
 else putS S x
theorem packRes_some {ns:List Nd} {k:Nat} (h:firstW ns=some k):packRes ns=#[.string ⟨#[]⟩,.int .i64 1,.int .i64 (k:Int)]:=by unfold packRes;rw[h]
theorem packRes_none {ns:List Nd} (h:firstW ns=none):packRes ns=#[.string (packB ns),.int .i64 0,.int .i64 0]:=by unfold packRes;rw[h];rfl
theorem EntsAt.none {w:World} {L:List (Bs × Value)} {S:List Ent} (h:EntsAt w L S) (p:ByteArray):(findK L p.data.toList).isNone=(findS S p).isNone:=by
 have:=h.find p;cases hf:findS S p with
 | none=>rw[hf]at this;simp only at this;rw[this];rfl
 | some e=>rw[hf]at this;obtain ⟨a,n,c,h1,_⟩:=this;rw[h1];rfl
end Go.Proofs.YticfcjmlphhpgaaGreatDoor
namespace Go.Proofs
open Go.Shelf
def Tryz.keys71_ren:Go.Shelf.Ren:=⟨fun | 7=>71 | 10=>102 | n=>n,fun | 23=>69 | 26=>9 | 3=>104 | 28=>108 | 0=>0 | 27=>107 | 33=>73 | 4=>4 | n=>n,fun | n=>n⟩
theorem Tryz.keys71:Go.Proofs.SlLaysZ.n7 Tryz.prog Tryz.keys71_ren:={
 mixed:=by kernel_rfl
 f7:=⟨Tryz.f71.name,by decide,Tryz.func71.trans (congrArg some (by kernel_rfl))⟩
 f10:=⟨Tryz.f102.name,by decide,Tryz.func102.trans (congrArg some (by kernel_rfl))⟩
 t0:=Tryz.underlying0
 a0:=Tryz.isAgg0
 z0:=Tryz.sizeOf0
 v0:=Tryz.zeroValue0
 t4:=Tryz.underlying4
 a4:=Tryz.isAgg4
 z4:=Tryz.sizeOf4
 v4:=Tryz.zeroValue4
 t23:=Tryz.underlying69
 a23:=Tryz.isAgg69
 z23:=Tryz.sizeOf69
 v23:=Tryz.zeroValue69
 t26:=Tryz.underlying9
 a26:=Tryz.isAgg9
 z26:=Tryz.sizeOf9
 v26:=Tryz.zeroValue9
 t27:=Tryz.underlying107
 a27:=Tryz.isAgg107
 z27:=Tryz.sizeOf107
 v27:=Tryz.zeroValue107
 t28:=Tryz.underlying108
 a28:=Tryz.isAgg108
 z28:=Tryz.sizeOf108
 v28:=Tryz.zeroValue108
 t33:=Tryz.underlying73
 a33:=Tryz.isAgg73
 z33:=Tryz.sizeOf73
 v33:=Tryz.zeroValue73}
def Tryz.sorted70_ren:Go.Shelf.Ren:=⟨fun | 6=>70 | 8=>100 | 9=>101 | 11=>127 | 13=>129 | 12=>128 | 23=>153 | 24=>154 | 14=>144 | 15=>145 | 16=>146 | 17=>147 | 18=>148 | 19=>149 | 20=>150 | 21=>151 | 22=>152 | 25=>164 | 26=>165 | 27=>166 | 28=>167 | 29=>168 | 30=>169 | 31=>180 | n=>n,fun | 26=>9 | 28=>108 | 24=>26 | 0=>0 | 3=>3 | 37=>181 | 48=>205 | 50=>115 | 4=>4 | 40=>199 | 39=>198 | 45=>140 | 5=>5 | 9=>9 | 51=>211 | 55=>215 | 57=>226 | 58=>227 | 33=>73 | n=>n,fun | n=>n⟩
theorem Tryz.sorted70:Go.Proofs.SlLaysZ.n6 Tryz.prog Tryz.sorted70_ren:={
 mixed:=by kernel_rfl
 f6:=⟨Tryz.f70.name,by decide,Tryz.func70.trans (congrArg some (by kernel_rfl))⟩
 f8:=⟨Tryz.f100.name,by decide,Tryz.func100.trans (congrArg some (by kernel_rfl))⟩
 f11:=⟨Tryz.f127.name,by decide,Tryz.func127.trans (congrArg some (by kernel_rfl))⟩
 t0:=Tryz.underlying0
 a0:=Tryz.isAgg0
 z0:=Tryz.sizeOf0
 v0:=Tryz.zeroValue0
 t24:=Tryz.underlying26
 a24:=Tryz.isAgg26
 z24:=Tryz.sizeOf26
 v24:=Tryz.zeroValue26
 t26:=Tryz.underlying9
 a26:=Tryz.isAgg9
 z26:=Tryz.sizeOf9
 v26:=Tryz.zeroValue9
 t28:=Tryz.underlying108
 a28:=Tryz.isAgg108
 z28:=Tryz.sizeOf108
 v28:=Tryz.zeroValue108
 i26:=by kernel_rfl}
def Tryz.sort101_ren:Go.Shelf.Ren:=⟨fun | 6=>101 | 8=>129 | 9=>128 | 19=>153 | 20=>154 | 21=>144 | 22=>145 | 23=>146 | 24=>147 | 25=>148 | 26=>149 | 27=>150 | 28=>151 | 29=>152 | 36=>164 | 31=>165 | 32=>166 | 37=>167 | 38=>168 | 39=>169 | 41=>180 | n=>n,fun | 27=>26 | 29=>9 | 3=>3 | 32=>181 | 26=>26 | 0=>0 | 44=>205 | 46=>115 | 4=>4 | 36=>199 | 35=>198 | 41=>140 | 5=>5 | 9=>9 | 53=>211 | 57=>215 | 63=>226 | 64=>227 | n=>n,fun | n=>n⟩
theorem Tryz.sort101:Go.Proofs.SlLaysM.n6 Tryz.prog Tryz.sort101_ren:={
 mixed:=by kernel_rfl
 f6:=⟨Tryz.f101.name,by decide,Tryz.func101.trans (congrArg some (by kernel_rfl))⟩
 f8:=Tryz.func129.trans (congrArg some (by kernel_rfl))
 f9:=⟨Tryz.f128.name,by decide,Tryz.func128.trans (congrArg some (by kernel_rfl))⟩
 f19:=Tryz.func153.trans (congrArg some (by kernel_rfl))
 f20:=Tryz.func154.trans (congrArg some (by kernel_rfl))
 f21:=⟨Tryz.f144.name,by decide,Tryz.func144.trans (congrArg some (by kernel_rfl))⟩
 f22:=⟨Tryz.f145.name,by decide,Tryz.func145.trans (congrArg some (by kernel_rfl))⟩
 f23:=⟨Tryz.f146.name,by decide,Tryz.func146.trans (congrArg some (by kernel_rfl))⟩
 f24:=⟨Tryz.f147.name,by decide,Tryz.func147.trans (congrArg some (by kernel_rfl))⟩
 f25:=⟨Tryz.f148.name,by decide,Tryz.func148.trans (congrArg some (by kernel_rfl))⟩
 f26:=⟨Tryz.f149.name,by decide,Tryz.func149.trans (congrArg some (by kernel_rfl))⟩
 f27:=⟨Tryz.f150.name,by decide,Tryz.func150.trans (congrArg some (by kernel_rfl))⟩
 f28:=⟨Tryz.f151.name,by decide,Tryz.func151.trans (congrArg some (by kernel_rfl))⟩
 f29:=⟨Tryz.f152.name,by decide,Tryz.func152.trans (congrArg some (by kernel_rfl))⟩
 f31:=Tryz.func165.trans (congrArg some (by kernel_rfl))
 f32:=Tryz.func166.trans (congrArg some (by kernel_rfl))
 f36:=⟨Tryz.f164.name,by decide,Tryz.func164.trans (congrArg some (by kernel_rfl))⟩
 f37:=⟨Tryz.f167.name,by decide,Tryz.func167.trans (congrArg some (by kernel_rfl))⟩
 f38:=⟨Tryz.f168.name,by decide,Tryz.func168.trans (congrArg some (by kernel_rfl))⟩
 f39:=⟨Tryz.f169.name,by decide,Tryz.func169.trans (congrArg some (by kernel_rfl))⟩
 f41:=⟨Tryz.f180.name,by decide,Tryz.func180.trans (congrArg some (by kernel_rfl))⟩
 t0:=Tryz.underlying0
 a0:=Tryz.isAgg0
 z0:=Tryz.sizeOf0
 v0:=Tryz.zeroValue0
 t3:=Tryz.underlying3
 a3:=Tryz.isAgg3
 z3:=Tryz.sizeOf3
 v3:=Tryz.zeroValue3
 t4:=Tryz.underlying4
 a4:=Tryz.isAgg4
 z4:=Tryz.sizeOf4
 v4:=Tryz.zeroValue4
 t5:=Tryz.underlying5
 a5:=Tryz.isAgg5
 z5:=Tryz.sizeOf5
 v5:=Tryz.zeroValue5
 t9:=Tryz.underlying9
 a9:=Tryz.isAgg9
 z9:=Tryz.sizeOf9
 v9:=Tryz.zeroValue9
 t26:=Tryz.underlying26
 a26:=Tryz.isAgg26
 z26:=Tryz.sizeOf26
 v26:=Tryz.zeroValue26
 t27:=Tryz.underlying26
 a27:=Tryz.isAgg26
 z27:=Tryz.sizeOf26
 v27:=Tryz.zeroValue26
 t29:=Tryz.underlying9
 a29:=Tryz.isAgg9
 z29:=Tryz.sizeOf9
 v29:=Tryz.zeroValue9
 t32:=Tryz.underlying181
 a32:=Tryz.isAgg181
 z32:=Tryz.sizeOf181
 v32:=Tryz.zeroValue181
 t35:=Tryz.underlying198
 a35:=Tryz.isAgg198
 z35:=Tryz.sizeOf198
 v35:=Tryz.zeroValue198
 t36:=Tryz.underlying199
 a36:=Tryz.isAgg199
 z36:=Tryz.sizeOf199
 v36:=Tryz.zeroValue199
 t41:=Tryz.underlying140
 a41:=Tryz.isAgg140
 z41:=Tryz.sizeOf140
 v41:=Tryz.zeroValue140
 t44:=Tryz.underlying205
 a44:=Tryz.isAgg205
 z44:=Tryz.sizeOf205
 v44:=Tryz.zeroValue205
 t46:=Tryz.underlying115
 a46:=Tryz.isAgg115
 z46:=Tryz.sizeOf115
 v46:=Tryz.zeroValue115
 t53:=Tryz.underlying211
 a53:=Tryz.isAgg211
 z53:=Tryz.sizeOf211
 v53:=Tryz.zeroValue211
 t57:=Tryz.underlying215
 a57:=Tryz.isAgg215
 z57:=Tryz.sizeOf215
 v57:=Tryz.zeroValue215
 t63:=Tryz.underlying226
 a63:=Tryz.isAgg226
 z63:=Tryz.sizeOf226
 v63:=Tryz.zeroValue226
 t64:=Tryz.underlying227
 a64:=Tryz.isAgg227
 z64:=Tryz.sizeOf227
 v64:=Tryz.zeroValue227}
open Go.RowKit Go.Maps Go.Sort Go.Shelf
theorem Tryz.sorts70 (m:Nat):AnyZ.SortsIn Tryz.prog Tryz.sorted70_ren Fence.wide m:=
 ⟨fun blk off cap ss W hH hblk hsz=>callsIn_wide.2 (AnyM.slices_Sort_string Tryz.sort101 blk off cap ss W hH hblk hsz),
  fun p cap W=>callsIn_wide.2 (AnyM.slices_Sort_string_none Tryz.sort101 p cap W)⟩
theorem Tryz.maps_Keys_71 (mb:Option Nat) (W:World):CallsIn Fence.wide 5 Tryz.prog 71 #[.map mb] W fun e w'=>e=.returned (.func (.func 102) #[] #[.pointer (some ⟨W.heap.size,0,none⟩)])∧w'=W.alloc (.cells #[.map mb] 69):=
 AnyZ.keys_in Tryz.keys71 Fence.wide 5 trivial rfl mb W
theorem Tryz.slices_Sorted_keys_70_71 {H:Type} (b nn:Nat) (D0:DataW H) (R:Value→Option (DataW H × List MemPlace)) (w:World) (hown:w.ownsMap Tryz.prog 9 R b nn D0) (hmax:Maps.size D0≤maxLen) (hbytes:Maps.size D0*16≤140737488355328) :
  CallsIn Fence.wide 5 Tryz.prog 70 #[.func (.func 102) #[] #[.pointer (some ⟨w.heap.size,0,none⟩)]] (w.alloc (.cells #[.map (some b)] 69)) fun e w'=>∃(v:Value) (ss:List (List UInt8)),e=.returned v∧ss.Perm (strKeys D0) ∧
   w'.ownsRow (w.alloc (.cells #[.map (some b)] 69)).heap.size 9 1 v ss.length ((ss.mergeSort (fun x y=>decide (x≤y))).map encStr)∧(v=.slice none 0 0↔ss=[])∧Below (w.alloc (.cells #[.map (some b)] 69)).heap.size (w.alloc (.cells #[.map (some b)] 69)) w':=by
 have hbl:=hown.lt;have hseq:SeqGives Fence.wide 2 Tryz.prog 102 #[.pointer (some ⟨w.heap.size,0,none⟩)] encStr (fun ss=>ss.Perm (strKeys D0)) (Maps.size D0) (w.alloc (.cells #[.map (some b)] 69)):=
  AnyZ.keys_gives (ρ:=Tryz.keys71_ren) {Tryz.keys71 with} Fence.wide _ trivial rfl (by omega) w.heap.size b nn D0 _ (by simp) (by simp) (by
   obtain ⟨es,clock,hb,Ft,hs,hD⟩:=hown;exact ⟨es,clock,(Below.heap_alloc _ _ b hbl).trans hb,Ft,hs,hD⟩)
 exact AnyZ.sorted_in Tryz.sorted70 Fence.wide 5 trivial trivial trivial trivial rfl (by omega) (Tryz.sorts70 _) (enters_of Tryz.func101 (by kernel_rfl) rfl) 102 #[.pointer (some ⟨w.heap.size,0,none⟩)] trivial (enters_of Tryz.func102 (by kernel_rfl) rfl) _ _ hmax hbytes _ hseq
end Go.Proofs
namespace Go.Proofs.YticfcjmlphhpgaaGreatDoor
open Go.RowKit Go.Maps Go.Sort
theorem own_base {w:World} {B B' e s n:Nat} {v:Value} {xs:List Value} (h:w.ownsRow B e s v n xs) (hB:B'≤B):w.ownsRow B' e s v n xs:=by
 obtain ⟨h1,h2⟩:=h;refine ⟨h1,?_⟩;rcases h2 with h2 | ⟨g,cap,cur,hv,hg,r⟩
 ·exact .inl h2
 ·exact .inr ⟨g,cap,cur,hv,Nat.le_trans hB hg,r⟩
def Rising (S:List Ent):Prop:=S.Pairwise fun a b=>bl a.path.data.toList b.path.data.toList=true
theorem insS_mem {x y:Ent}:∀{S:List Ent},y∈insS x S→y=x∨y∈S
 | [],h=>by simp[insS]at h;exact .inl h
 | z :: r,h=>by
  have e2:insS x (z :: r)=if bytesBefore x.path.data.toList z.path.data.toList=true then x :: z :: r else z :: insS x r:=rfl
  rw[e2]at h
  split at h
  ·rcases List.mem_cons.1 h with h | h
   ·exact .inl h
   ·exact .inr h
  ·rcases List.mem_cons.1 h with h | h
   ·exact .inr (by rw[h];exact List.mem_cons_self)
   ·rcases insS_mem h with h | h
    ·exact .inl h
    ·exact .inr (List.mem_cons_of_mem _ h)
theorem Rising.ins {x:Ent}:∀{S:List Ent},Rising S→findS S x.path=none→Rising (insS x S)
 | [],_,_=>List.pairwise_singleton _ _
 | z :: r,h,hf=>by
  obtain ⟨h1,h2⟩:=List.pairwise_cons.1 h;have e2:insS x (z :: r)=if bytesBefore x.path.data.toList z.path.data.toList=true then x :: z :: r else z :: insS x r:=rfl
  rw[e2];unfold findS at hf;rw[List.find?_cons]at hf;have hne:(z.path.data.toList == x.path.data.toList)=false:=by
   cases hb:z.path.data.toList == x.path.data.toList with
   | true=>rw[hb]at hf;cases hf
   | false=>rfl
  rw[hne]at hf
  split
  ·rename_i hb
   rw[before_less]at hb;refine List.pairwise_cons.2 ⟨fun y hy=>?_,h⟩;rcases List.mem_cons.1 hy with rfl | hy
   ·exact hb
   ·exact bl_trans _ _ _ hb (h1 y hy)
  ·rename_i hb
   rw[before_less]at hb;have hzx:bl z.path.data.toList x.path.data.toList=true:=by
    rcases bl_tri z.path.data.toList x.path.data.toList with h | h | h
    ·exact h
    ·exact absurd h (by simpa using hne)
    ·exact absurd h hb
   refine List.pairwise_cons.2 ⟨fun y hy=>?_,Rising.ins h2 hf⟩;rcases insS_mem hy with rfl | hy
   ·exact hzx
   ·exact h1 y hy
theorem lt_of_bl:∀a b:Bs,bl a b=true→a<b
 | [],[],h=>by cases h
 | [],_ :: _,_=>List.nil_lt_cons _ _
 | _ :: _,[],h=>by cases h
 | a :: r,b :: s,h=>by
  rw[bl_cons]at h;rcases Bool.or_eq_true_iff.1 h with h | h
  ·exact List.cons_lt_cons_iff.2 (.inl (of_decide_eq_true h))
  ·obtain ⟨h1,h2⟩:=Bool.and_eq_true_iff.1 h;exact List.cons_lt_cons_iff.2 (.inr ⟨by simpa using h1,lt_of_bl r s h2⟩)
theorem strKeys_mapD (L:List (Bs × Value)):strKeys (mapD L)=L.map (·.1):=by
 show (L.map fun e=>(Lit.string e.1,DataW.held e.2)).map (fun p:Lit × DataW Value=>strOf p.1)=_;rw[List.map_map];rfl
theorem EntsAt.keys {w:World}:∀{L:List (Bs × Value)} {S:List Ent},EntsAt w L S→L.map (·.1)=S.map fun e=>e.path.data.toList
 | [],[],_=>rfl
 | _ :: _,_ :: _,h=>by rw[List.map_cons,List.map_cons,h.1.1,h.2.keys]
 | [],_ :: _,h=>h.elim
 | _ :: _,[],h=>h.elim
theorem sort_rising {S:List Ent} (h:Rising S):(S.map fun e=>e.path.data.toList).mergeSort (fun x y=>decide (x≤y))=S.map fun e=>e.path.data.toList:=by
 refine List.mergeSort_of_pairwise ?_;rw[List.pairwise_map];exact h.imp fun hb=>decide_eq_true (List.le_of_lt (lt_of_bl _ _ hb))
theorem encStr_paths (S:List Ent):(S.map fun e=>e.path.data.toList).map encStr=(S.map (·.path)).map Value.string:=by
 rw[List.map_map,List.map_map];rfl
theorem Paths_any (b:Nat) (S:List Ent) (w:World) (h:PSt w b S) (hR:Rising S) (hS:S.length≤1000) :
  Calls Tryz.prog 45 #[.map (some b)] w fun e w'=>∃v,e=.returned v∧w'.ownsRow w.heap.size 9 1 v S.length ((S.map (·.path)).map Value.string)∧Below w.heap.size w w':=by
 obtain ⟨L,h1,h2⟩:=h;have hlen:=h2.length;have cK:=hide (callsIn_wide.1 (Tryz.maps_Keys_71 (some b) w));have cS:=hide (callsIn_wide.1 (Tryz.slices_Sorted_keys_70_71 b L.length (mapD L) rawR w h1 (by rw[size_mapD];unfold maxLen;omega) (by rw[size_mapD];omega)));have hkeys:strKeys (mapD L)=S.map fun e=>e.path.data.toList:=(strKeys_mapD L).trans h2.keys
 have HK:=hide hkeys;clear h1 h2 hkeys;go_enter Tryz.func45,Tryz.ntmps45
 go_wp2_with fail
 refine cK.out.mono ?_;rintro e w1 ⟨rfl,rfl⟩
 go_wp2_with fail
 refine cS.out.mono ?_;rintro e w2 ⟨v,ss,rfl,hperm,hrow,hnil,hb⟩;rw[HK.out]at hperm;have hsort:ss.mergeSort (fun x y=>decide (x≤y))=S.map fun e=>e.path.data.toList:=(mergeSort_of_perm hperm).trans (sort_rising hR)
 rw[hsort,encStr_paths]at hrow;have hlen2:ss.length=S.length:=by rw[hperm.length_eq,List.length_map]
 rw[hlen2]at hrow;have hb':Below w.heap.size w w2:=((Below.refl _ w).alloc (Nat.le_refl _) _).trans (hb.mono (by simp));clear hnil hperm hsort;go_wp2;go_ret;exact ⟨_,rfl,own_base hrow (by simp),hb'⟩
end Go.Proofs.YticfcjmlphhpgaaGreatDoor
namespace Go.Proofs.YticfcjmlphhpgaaGreatDoor
open Go.RowKit
namespace HP
def par (i:Nat):Nat:=(i - 1) / 2
def swp (f:Nat→Nat) (i k:Nat):Nat→Nat:=fun x=>if x=i then f k else if x=k then f i else f x
theorem swp_l (f:Nat→Nat) (i k:Nat):swp f i k i=f k:=by simp[swp]
theorem swp_r (f:Nat→Nat) (i k:Nat):swp f i k k=f i:=by unfold swp;split <;> simp_all
theorem swp_o (f:Nat→Nat) {i k x:Nat} (h1:x≠i) (h2:x≠k):swp f i k x=f x:=by simp[swp,h1,h2]
structure Or (lt:Nat→Nat→Bool):Prop where
 tr:∀a b c,lt b a=false→lt c b=false→lt c a=false
 asy:∀a b,lt a b=true→lt b a=false
theorem Or.ir {lt:Nat→Nat→Bool} (h:Or lt) (a:Nat):lt a a=false:=by
 cases e:lt a a with
 | false=>rfl
 | true=>exact e.symm.trans (h.asy a a e)
def IsHeap (lt:Nat→Nat→Bool) (f:Nat→Nat) (n:Nat):Prop:=∀i,0<i→i<n→lt (f i) (f (par i))=false
structure UpI (lt:Nat→Nat→Bool) (f:Nat→Nat) (n j:Nat):Prop where
 a:∀i,0<i→i<n→i≠j→lt (f i) (f (par i))=false
 b:∀i,0<i→i<n→par i=j→0<j→lt (f i) (f (par j))=false
structure DownI (lt:Nat→Nat→Bool) (f:Nat→Nat) (n j:Nat):Prop where
 a:∀i,0<i→i<n→par i≠j→lt (f i) (f (par i))=false
 b:∀i,0<i→i<n→par i=j→0<j→lt (f i) (f (par j))=false
theorem par_lt {i:Nat} (h:0<i):par i<i:=by unfold par;omega
theorem UpI.end0 {lt:Nat→Nat→Bool} {f:Nat→Nat} {n:Nat} (h:UpI lt f n 0):IsHeap lt f n:=fun i h0 hn=>h.a i h0 hn (by omega)
theorem UpI.stop {lt:Nat→Nat→Bool} {f:Nat→Nat} {n j:Nat} (h:UpI lt f n j) (hj:lt (f j) (f (par j))=false):IsHeap lt f n:=fun i h0 hn=>by
 by_cases e:i=j
 ·rw[e];exact hj
 ·exact h.a i h0 hn e
theorem UpI.step {lt:Nat→Nat→Bool} (o:Or lt) {f:Nat→Nat} {n j:Nat} (h:UpI lt f n j) (h0:0<j) (hn:j<n) (hj:lt (f j) (f (par j))=true):UpI lt (swp f (par j) j) n (par j):=by
 have hpj:=par_lt h0;have has:=o.asy _ _ hj;refine ⟨fun i hi0 hin hip=>?_,fun i hi0 hin hpi hp0=>?_⟩
 ·by_cases e:i=j
  ·subst e;rw[swp_r,swp_l];exact has
  ·rw[swp_o f hip e]
   by_cases e1:par i=par j
   ·rw[e1,swp_l];have:=h.a i hi0 hin e;rw[e1]at this;exact o.tr _ _ _ has this
   ·by_cases e2:par i=j
    ·rw[e2,swp_r];exact h.b i hi0 hin e2 h0
    ·rw[swp_o f e1 e2];exact h.a i hi0 hin e
 ·have hpp:=par_lt hp0;have hii:=par_lt hi0;rw[swp_o f (x:=par (par j)) (by omega) (by omega)];have hp:=h.a (par j) hp0 (by omega) (by omega)
  by_cases e:i=j
  ·subst e;rw[swp_r];exact hp
  ·rw[swp_o f (by omega) e];have:=h.a i hi0 hin e;rw[hpi]at this;exact o.tr _ _ _ hp this
theorem DownI.done {lt:Nat→Nat→Bool} {f:Nat→Nat} {n i:Nat} (h:DownI lt f n i) (hi:n≤2*i+1):IsHeap lt f n:=fun c h0 hn=>h.a c h0 hn (by unfold par;omega)
theorem DownI.stop {lt:Nat→Nat→Bool} (o:Or lt) {f:Nat→Nat} {n i j:Nat} (h:DownI lt f n i) (hl:∀c,0<c→c<n→par c=i→lt (f c) (f j)=false) (hj:lt (f j) (f i)=false):IsHeap lt f n:=fun c h0 hn=>by
 by_cases e:par c=i
 ·rw[e];exact o.tr _ _ _ hj (hl c h0 hn e)
 ·exact h.a c h0 hn e
theorem DownI.step {lt:Nat→Nat→Bool} (o:Or lt) {f:Nat→Nat} {n i j:Nat} (h:DownI lt f n i) (hj0:0<j) (hjn:j<n) (hpj:par j=i) (hl:∀c,0<c→c<n→par c=i→lt (f c) (f j)=false) (hj:lt (f j) (f i)=true):DownI lt (swp f i j) n j:=by
 have has:=o.asy _ _ hj;have hij:i<j:=by rw[← hpj];exact par_lt hj0
 refine ⟨fun c h0 hn hc=>?_,fun c h0 hn hc _=>?_⟩
 ·by_cases e:c=j
  ·subst e;rw[swp_r,hpj,swp_l];exact has
  ·by_cases e1:par c=i
   ·have:c≠i:=by have:=par_lt h0;omega
    rw[e1,swp_l,swp_o f this e];exact hl c h0 hn e1
   ·by_cases e2:c=i
    ·subst e2;have:=par_lt h0;rw[swp_l,swp_o f (by omega) (by omega)];exact h.b j hj0 hjn hpj h0
    ·rw[swp_o f e2 e,swp_o f e1 hc];exact h.a c h0 hn e1
 ·have:=par_lt h0;rw[hpj,swp_l,swp_o f (by omega) (by omega)];have:=h.a c h0 hn (by omega)
  rwa [hc]at this
theorem least {lt:Nat→Nat→Bool} (o:Or lt) {f:Nat→Nat} {n i:Nat} (j:Nat) (h:(j=2*i+1∧(2*i+2<n→lt (f (2*i+2)) (f (2*i+1))=false))∨(j=2*i+2∧lt (f (2*i+2)) (f (2*i+1))=true)):∀c,0<c→c<n→par c=i→lt (f c) (f j)=false:=by
 intro c h0 hn hc;have hc2:c=2*i+1∨c=2*i+2:=by unfold par at hc;omega
 rcases h with ⟨rfl,h⟩ | ⟨rfl,h⟩
 ·rcases hc2 with rfl | rfl
  ·exact o.ir _
  ·exact h hn
 ·rcases hc2 with rfl | rfl
  ·exact o.asy _ _ h
  ·exact o.ir _
theorem IsHeap.root {lt:Nat→Nat→Bool} (o:Or lt) {f:Nat→Nat} {n:Nat} (h:IsHeap lt f n):∀i,i<n→lt (f i) (f 0)=false:=by
 intro i
 induction i using Nat.strongRecOn with
 | ind i ih=>
  intro hi
  by_cases e:i=0
  ·subst e;exact o.ir _
  ·have hp:=par_lt (i:=i) (by omega);exact o.tr _ _ _ (ih (par i) hp (by omega)) (h i (by omega) hi)
theorem IsHeap.pop {lt:Nat→Nat→Bool} {f:Nat→Nat} {n:Nat} (h:IsHeap lt f (n+1)):DownI lt (swp f 0 n) n 0:=by
 refine ⟨fun c h0 hn hc=>?_,fun c h0 hn hc h=>by omega⟩;have:=par_lt h0;rw[swp_o f (by omega) (by omega),swp_o f hc (by omega)];exact h c h0 (by omega)
def ext (f:Nat→Nat) (n x:Nat):Nat→Nat:=fun k=>if k=n then x else f k
theorem ext_o (f:Nat→Nat) {n x k:Nat} (h:k≠n):ext f n x k=f k:=by simp[ext,h]
theorem ext_n (f:Nat→Nat) (n x:Nat):ext f n x n=x:=by simp[ext]
theorem IsHeap.push {lt:Nat→Nat→Bool} {f:Nat→Nat} {n:Nat} (h:IsHeap lt f n) (x:Nat):UpI lt (ext f n x) (n+1) n:=by
 refine ⟨fun c h0 hn hc=>?_,fun c h0 hn hc _=>?_⟩
 ·have:=par_lt h0;rw[ext_o f (by omega),ext_o f (by omega)];exact h c h0 (by omega)
 ·have:=par_lt h0;omega
structure Same (n:Nat) (f g:Nat→Nat):Prop where
 ab:∀i,i<n→∃k,k<n∧f k=g i
 ba:∀i,i<n→∃k,k<n∧g k=f i
 inj:(∀i k,i<n→k<n→f i=f k→i=k)→∀i k,i<n→k<n→g i=g k→i=k
theorem Same.refl (n:Nat) (f:Nat→Nat):Same n f f:=⟨fun i h=>⟨i,h,rfl⟩,fun i h=>⟨i,h,rfl⟩,fun h=>h⟩
theorem Same.trans {n:Nat} {f g h:Nat→Nat} (a:Same n f g) (b:Same n g h):Same n f h:=by
 refine ⟨fun i hi=>?_,fun i hi=>?_,fun H=>b.inj (a.inj H)⟩
 ·obtain ⟨k,hk,e⟩:=b.ab i hi;obtain ⟨m,hm,e2⟩:=a.ab k hk;exact ⟨m,hm,e2.trans e⟩
 ·obtain ⟨k,hk,e⟩:=a.ba i hi;obtain ⟨m,hm,e2⟩:=b.ba k hk;exact ⟨m,hm,e2.trans e⟩
theorem Same.swp (n:Nat) (f:Nat→Nat) {i k:Nat} (hi:i<n) (hk:k<n):Same n f (swp f i k):=by
 refine ⟨fun x hx=>?_,fun x hx=>?_,fun H x y hx hy e=>?_⟩
 ·unfold HP.swp;split
  ·exact ⟨k,hk,rfl⟩
  ·split
   ·exact ⟨i,hi,rfl⟩
   ·exact ⟨x,hx,rfl⟩
 ·by_cases e:x=i
  ·exact ⟨k,hk,by rw[swp_r,e]⟩
  ·by_cases e2:x=k
   ·exact ⟨i,hi,by rw[swp_l,e2]⟩
   ·exact ⟨x,hx,swp_o f e e2⟩
 ·have key:∀z,HP.swp f i k z=f (if z=i then k else if z=k then i else z):=fun z=>by unfold HP.swp;split <;> (try split) <;> rfl
  have lt:∀z,z<n→(if z=i then k else if z=k then i else z)<n:=fun z hz=>by split <;> (try split) <;> assumption
  rw[key,key]at e;have:=H _ _ (lt x hx) (lt y hy) e
  revert this
  split <;> split <;> (try split) <;> (try split) <;> omega
end HP
def ptrV (b:Nat):Value:=.iface 155 (.pointer (some ⟨b,0,none⟩))
def rowV (f:Nat→Nat) (n:Nat):List Value:=(List.range n).map fun i=>ptrV (f i)
theorem rowV_length (f:Nat→Nat) (n:Nat):(rowV f n).length=n:=by simp[rowV]
theorem rowV_get (f:Nat→Nat) {n i:Nat} (h:i<n):(rowV f n)[i]?=some (ptrV (f i)):=by simp[rowV,h]
theorem rowV_el (f:Nat→Nat) (n x:Nat) (h:x<(rowV f n).length):(rowV f n)[x]=ptrV (f x):=by simp[rowV]
theorem rowV_ext (f:Nat→Nat) (n b:Nat):rowV f n++[ptrV b]=rowV (HP.ext f n b) (n+1):=by
 unfold rowV;rw[List.range_succ,List.map_append,List.map_singleton,HP.ext_n]
 congr 1
 refine List.map_congr_left fun i hi=>?_
 rw[HP.ext_o f (by have:=List.mem_range.1 hi;omega)]
theorem rowV_swp (f:Nat→Nat) {n i k:Nat} (hi:i<n) (hk:k<n):((rowV f n).set i (ptrV (f k))).set k (ptrV (f i))=rowV (HP.swp f i k) n:=by
 refine List.ext_getElem (by simp[rowV]) fun x h1 h2=>?_
 rw[List.getElem_set,List.getElem_set,rowV_el,rowV_el];unfold HP.swp
 by_cases e1:x=k
 ·subst e1;rw[if_pos rfl]
  by_cases e2:x=i
  ·subst e2;rw[if_pos rfl]
  ·rw[if_neg e2,if_pos rfl]
 ·rw[if_neg (Ne.symm e1)]
  by_cases e2:x=i
  ·subst e2;rw[if_pos rfl,if_pos rfl]
  ·rw[if_neg (Ne.symm e2),if_neg e2,if_neg e1]
structure QAt (w:World) (B q:Nat) (f:Nat→Nat) (n:Nat):Prop where
 le:B≤q
 at_:∃a cap,w.heap[q]?=some (.cells #[.slice a n cap] 154 (0,0))∧w.ownsRow B 245 1 (.slice a n cap) n (rowV f n)
structure HK (B q:Nat) (w w':World):Prop where
 bel:Below B w w'
 blk:∀k,k<w.heap.size→k≠q→(∀cur fz,w.heap[k]?≠some (.cells cur 245 fz))→w'.heap[k]?=w.heap[k]?
theorem HK.refl (B q:Nat) (w:World):HK B q w w:=⟨Below.refl _ _,fun _ _ _ _=>rfl⟩
theorem HK.trans {B q:Nat} {w w1 w2:World} (h:HK B q w w1) (k:HK B q w1 w2):HK B q w w2:=by
 refine ⟨h.bel.trans k.bel,fun i hi hq hn=>?_⟩;have e:=h.blk i hi hq hn;exact (k.blk i (Nat.lt_of_lt_of_le hi h.bel.size) hq (by rw[e];exact hn)).trans e
theorem HK.drew {B q:Nat} {w w':World} (h:HK B q w w'):HK B q w w'.drew:=⟨h.bel.drew,h.blk⟩
theorem QAt.drew {w:World} {B q n:Nat} {f:Nat→Nat} (h:QAt w B q f n):QAt w.drew B q f n:=⟨h.le,h.at_⟩
theorem load154 (q:Nat) (a:Option Addr) (n c:Nat) (w:World) (h:w.heap[q]?=some (.cells #[.slice a n c] 154 (0,0))):(loadVar 154 ⟨q,0,none⟩).run Tryz.prog w=.ok (.slice a n c) w:=by
 have c0:w.cell? ⟨q,0,none⟩=some (.slice a n c):=by simp[World.cell?,h]
 go_simp
theorem nil_rank (a : Addr) (w : World) : (nilAhead 348 155 (.pointer (some a)) "nar/store.rank").run Tryz.prog w = .ok (some false) w := by kernel_rfl
theorem meth_rank (a : Addr) (w : World) : (method 348 155 (.pointer (some a)) "nar/store.rank").run Tryz.prog w = .ok (207, .pointer (some a)) w := by kernel_rfl
theorem nil_Len (a : Addr) (w : World) : (nilAhead 348 152 (.pointer (some a)) "Len").run Tryz.prog w = .ok (some false) w := by kernel_rfl
theorem nil_Less (a : Addr) (w : World) : (nilAhead 348 152 (.pointer (some a)) "Less").run Tryz.prog w = .ok (some false) w := by kernel_rfl
theorem nil_Swap (a : Addr) (w : World) : (nilAhead 348 152 (.pointer (some a)) "Swap").run Tryz.prog w = .ok (some false) w := by kernel_rfl
theorem nil_Push (a : Addr) (w : World) : (nilAhead 348 152 (.pointer (some a)) "Push").run Tryz.prog w = .ok (some false) w := by kernel_rfl
theorem nil_Pop (a : Addr) (w : World) : (nilAhead 348 152 (.pointer (some a)) "Pop").run Tryz.prog w = .ok (some false) w := by kernel_rfl
theorem meth_Len0 (a : Addr) (w : World) : (method 348 152 (.pointer (some a)) "Len").run Tryz.prog w = ((loadVar 154 a).bind fun v => pure ((104 : FuncId), v)).run Tryz.prog w := by kernel_rfl
theorem meth_Less0 (a : Addr) (w : World) : (method 348 152 (.pointer (some a)) "Less").run Tryz.prog w = ((loadVar 154 a).bind fun v => pure ((203 : FuncId), v)).run Tryz.prog w := by kernel_rfl
theorem meth_Swap0 (a : Addr) (w : World) : (method 348 152 (.pointer (some a)) "Swap").run Tryz.prog w = ((loadVar 154 a).bind fun v => pure ((206 : FuncId), v)).run Tryz.prog w := by kernel_rfl
theorem meth_Push (a : Addr) (w : World) : (method 348 152 (.pointer (some a)) "Push").run Tryz.prog w = .ok (205, .pointer (some a)) w := by kernel_rfl
theorem meth_Pop (a : Addr) (w : World) : (method 348 152 (.pointer (some a)) "Pop").run Tryz.prog w = .ok (204, .pointer (some a)) w := by kernel_rfl
theorem bind_load {q n c:Nat} {a:Option Addr} {w:World} (k:FuncId) (h:w.heap[q]?=some (.cells #[.slice a n c] 154 (0,0))):((loadVar 154 ⟨q,0,none⟩).bind fun v=>pure (k,v)).run Tryz.prog w=.ok (k,.slice a n c) w:=by
 show ((loadVar 154 ⟨q,0,none⟩) >>= fun v=>pure (k,v)).run Tryz.prog w=_;rw[Sem.run_bind,load154 q a n c w h];rfl
theorem meth_Len {q n c : Nat} {a : Option Addr} {w : World} (h : w.heap[q]? = some (.cells #[.slice a n c] 154 (0, 0))) : (method 348 152 (.pointer (some ⟨q, 0, none⟩)) "Len").run Tryz.prog w = .ok (104, .slice a n c) w := (meth_Len0 _ w).trans (bind_load 104 h)
theorem meth_Less {q n c : Nat} {a : Option Addr} {w : World} (h : w.heap[q]? = some (.cells #[.slice a n c] 154 (0, 0))) : (method 348 152 (.pointer (some ⟨q, 0, none⟩)) "Less").run Tryz.prog w = .ok (203, .slice a n c) w := (meth_Less0 _ w).trans (bind_load 203 h)
theorem meth_Swap {q n c : Nat} {a : Option Addr} {w : World} (h : w.heap[q]? = some (.cells #[.slice a n c] 154 (0, 0))) : (method 348 152 (.pointer (some ⟨q, 0, none⟩)) "Swap").run Tryz.prog w = .ok (206, .slice a n c) w := (meth_Swap0 _ w).trans (bind_load 206 h)
theorem assert_ranked (b:Nat) (w:World):(Instr.typeAssert (.iface 155 (.pointer (some ⟨b,0,none⟩))) 20 245 true).run Tryz.prog w=.ok (.tuple #[.iface 155 (.pointer (some ⟨b,0,none⟩)),.bool true]) w:=by kernel_rfl
theorem Tryz.info245:(Tryz.prog.info? 245).map (fun i=>(i.zero,i.size,i.bytes))=some (some .nilIface,1,16):=by kernel_rfl
theorem rank_any (b:Nat) (p:ByteArray) (w:World) (h:w.cell? ⟨b,0,none⟩=some (.string p)):Calls Tryz.prog 207 #[.pointer (some ⟨b,0,none⟩)] w fun e w'=>e=.returned (.string p)∧w'=w:=by
 go_enter Tryz.func207,Tryz.ntmps207;go_wp2;go_ret;exact ⟨rfl,rfl⟩
theorem qLen_any (a:Option Addr) (n c:Nat) (w:World):Calls Tryz.prog 104 #[.slice a n c] w fun e w'=>e=.returned (.int .i64 n)∧w'=w:=by
 go_enter Tryz.func104,Tryz.ntmps104;go_wp2;go_ret;exact ⟨rfl,rfl⟩
theorem qLess_any (qb off c n i k b1 b2:Nat) (p1 p2:ByteArray) (w:World) (hi:i<n) (hk:k<n)
  (h1:w.cell? ⟨qb,off+i,none⟩=some (.iface 155 (.pointer (some ⟨b1,0,none⟩)))) (h2:w.cell? ⟨qb,off+k,none⟩=some (.iface 155 (.pointer (some ⟨b2,0,none⟩))))
  (h3:w.cell? ⟨b1,0,none⟩=some (.string p1)) (h4:w.cell? ⟨b2,0,none⟩=some (.string p2)) :
  Calls Tryz.prog 203 #[.slice (some ⟨qb,off,none⟩) n c,.int .i64 i,.int .i64 k] w fun e w'=>e=.returned (.bool (Op.bytesLess p1.toList p2.toList))∧∃m,w'=w.drewN m:=by
 have hiz:(i:Int)<n:=by omega
 have hkz:(k:Int)<n:=by omega
 have n1:=nil_rank ⟨b1,0,none⟩;have n2:=nil_rank ⟨b2,0,none⟩;have m1:=meth_rank ⟨b1,0,none⟩;have m2:=meth_rank ⟨b2,0,none⟩;go_enter Tryz.func203,Tryz.ntmps203;go_wp2
 go_quiet ((go_at_call 207;first | exact Calls.quiet_of_same (rank_any b1 p1 _ (by simpa using h3)) | exact Calls.quiet_of_same (rank_any b2 p2 _ (by simpa using h4))))
 go_wp2;go_ret;exact ⟨rfl,_,rfl⟩
theorem qSwap_two (qb off c n i k:Nat) (p1 p2:Option Addr) (w:World) (hi:i<n) (hk:k<n) (hne:i≠k)
  (h1:w.cell? ⟨qb,off+i,none⟩=some (.iface 155 (.pointer p1))) (h2:w.cell? ⟨qb,off+k,none⟩=some (.iface 155 (.pointer p2))) (f1:w.frozen? ⟨qb,off+i,none⟩=false) (f2:w.frozen? ⟨qb,off+k,none⟩=false) :
  Calls Tryz.prog 206 #[.slice (some ⟨qb,off,none⟩) n c,.int .i64 i,.int .i64 k] w fun e w'=>e=.returned (.tuple #[])∧w'=((w.setCell ⟨qb,off+i,none⟩ (.iface 155 (.pointer p2))).setCell ⟨qb,off+k,none⟩ (.iface 155 (.pointer p1))).drew:=by
 have hiz:(i:Int)<n:=by omega
 have hkz:(k:Int)<n:=by omega
 go_enter Tryz.func206,Tryz.ntmps206;go_wp2
 go_region
 go_end0;exact ⟨rfl,rfl⟩
theorem qSwap_one (qb off c n i:Nat) (p1:Option Addr) (w:World) (hi:i<n)
  (h1:w.cell? ⟨qb,off+i,none⟩=some (.iface 155 (.pointer p1))) (f1:w.frozen? ⟨qb,off+i,none⟩=false) :
  Calls Tryz.prog 206 #[.slice (some ⟨qb,off,none⟩) n c,.int .i64 i,.int .i64 i] w fun e w'=>e=.returned (.tuple #[])∧w'=((w.setCell ⟨qb,off+i,none⟩ (.iface 155 (.pointer p1))).setCell ⟨qb,off+i,none⟩ (.iface 155 (.pointer p1))).drew:=by
 have hiz:(i:Int)<n:=by omega
 go_enter Tryz.func206,Tryz.ntmps206;go_wp2
 go_region
 go_end0;exact ⟨rfl,rfl⟩
end Go.Proofs.YticfcjmlphhpgaaGreatDoor
namespace Go.Proofs.YticfcjmlphhpgaaGreatDoor
open Go.RowKit
theorem own_ne {w:World} {B q n:Nat} {a:Option Addr} {c:Nat} {xs:List Value} {v:Value} (hq:w.heap[q]?=some (.cells #[v] 154 (0,0))) (ho:w.ownsRow B 245 1 (.slice a n c) n xs):some q≠(Value.slice a n c).ownBlock:=by
 intro e;rcases ho.2 with ⟨h1,_⟩ | ⟨g,cap,cur,h1,_,h2,_⟩
 ·rw[h1]at e;cases e
 ·rw[h1]at e;simp only[Value.ownBlock,Option.some.injEq]at e;rw[← e,hq]at h2;simp at h2
theorem own_blk {w:World} {B n k:Nat} {a:Option Addr} {c:Nat} {xs:List Value} (ho:w.ownsRow B 245 1 (.slice a n c) n xs) (hk:∀cur fz,w.heap[k]?≠some (.cells cur 245 fz)):some k≠(Value.slice a n c).ownBlock:=by
 intro e;rcases ho.2 with ⟨h1,_⟩ | ⟨g,cap,cur,h1,_,h2,_⟩
 ·rw[h1]at e;cases e
 ·rw[h1]at e;simp only[Value.ownBlock,Option.some.injEq]at e;rw[← e]at h2;exact hk _ _ h2
theorem QAt.put {w w3:World} {B q n m:Nat} {a a':Option Addr} {c c':Nat} {f:Nat→Nat} (hle:B≤q) (hq:w3.heap[q]?=some (.cells #[.slice a n c] 154 (0,0))) (ho:w3.ownsRow B 245 1 (.slice a' m c') m (rowV f m)) (hk:HK B q w w3) :
  QAt (w3.setCell ⟨q,0,none⟩ (.slice a' m c')) B q f m∧HK B q w (w3.setCell ⟨q,0,none⟩ (.slice a' m c')):=by
 have hself:(w3.setCell ⟨q,0,none⟩ (.slice a' m c')).heap[q]?=some (.cells #[.slice a' m c'] 154 (0,0)):=by
  simp[World.setCell,Array.getElem?_modify,hq]
 refine ⟨⟨hle,a',c',hself,?_⟩,⟨hk.bel.setCell hle _,fun k hk1 hk2 hk3=>?_⟩⟩
 ·refine ⟨ho.1,?_⟩;rcases ho.2 with h | ⟨g,cap,cur,h1,h2,h3,h4⟩
  ·exact .inl h
  ·have hne:g≠q:=fun e=>by rw[e,hq]at h3;simp at h3
   exact .inr ⟨g,cap,cur,h1,h2,(Below.heap_setCell _ _ _ _ hne).trans h3,h4⟩
 ·exact (Below.heap_setCell _ _ _ _ hk2).trans (hk.blk k hk1 hk2 hk3)
theorem push_after {w w3:World} {B q n b qc:Nat} {qa:Option Addr} {f:Nat→Nat} {v3:Value} (hql:q<w.heap.size) (hle:B≤q) (hq:w.heap[q]?=some (.cells #[.slice qa n qc] 154 (0,0))) (ho:w.ownsRow B 245 1 (.slice qa n qc) n (rowV f n)) (hown3:w3.ownsRow B 245 1 v3 (n+1) (rowV f n++[ptrV b])) (hgrow3:(w.alloc (.cells #[ptrV b] 245)).grownBy w3 (Value.slice qa n qc).ownBlock) :
  ∃a3 c3,v3=.slice a3 (n+1) c3∧w3.heap[q]?=some (.cells #[.slice qa n qc] 154 (0,0))∧w3.ownsRow B 245 1 (.slice a3 (n+1) c3) (n+1) (rowV (HP.ext f n b) (n+1))∧HK B q w w3:=by
 obtain ⟨a3,c3,rfl,_⟩:=own_sl hown3;rw[rowV_ext]at hown3;refine ⟨a3,c3,rfl,?_,hown3,⟨?_,fun k hk1 _ hk3=>?_⟩⟩
 ·exact (hgrow3.block q (by simp;omega) (own_ne hq ho)).trans (block_keep _ hq)
 ·exact ((Below.refl B w).alloc (by omega) _).grown hgrow3 (by simp;omega) (fun k hk=>(ho.lt k hk).1)
 ·exact (hgrow3.block k (by simp;omega) (own_blk ho hk3)).trans (Below.heap_alloc w (.cells #[ptrV b] 245) k hk1)
theorem qPush_any (B q b n:Nat) (f:Nat→Nat) (w:World) (h:QAt w B q f n) (hn:n≤1000):Calls Tryz.prog 205 #[.pointer (some ⟨q,0,none⟩),.iface 155 (.pointer (some ⟨b,0,none⟩))] w fun e w'=>e=.returned (.tuple #[])∧QAt w' B q (HP.ext f n b) (n+1)∧HK B q w w':=by
 obtain ⟨i245,hi245,h0,h1,h2⟩:=info_parts Tryz.info245;obtain ⟨qa,qc,hq,ho⟩:=h.at_;have hle:=h.le;have HO:=hide ho;have HQ:=hide hq;have hql:q<w.heap.size:=(Array.getElem?_eq_some_iff.1 hq).1;have c0:w.cell? ⟨q,0,none⟩=some (.slice qa n qc):=by simp[World.cell?,hq]
 have ass:=assert_ranked b;clear h hq ho;go_enter Tryz.func205,Tryz.ntmps205
 go_wp2_with (at_builtin;refine wpList_append_own _ rfl (.tmp 15) (.tmp 17) 154 rfl B 245 i245 .nilIface 1 16 Tryz.underlying154 hi245 h0 h1 h2 rfl (by decide) (.slice qa n qc) n (rowV f n) rfl (HO.out.alloc _) ⟨w.heap.size,0,none⟩ 1 1 [ptrV b] rfl rfl (cell_one_at _ _ _ _ rfl) (fun x hx=>by simp at hx;subst hx;rfl) (by unfold maxLen;omega) (by omega) (by simp;omega) ?_;intro v3 w3 hown3 hgrow3 hnil3;obtain ⟨a3,cap3,rfl,hq3,ho3,hk3⟩:=push_after hql hle HQ.out HO.out hown3 hgrow3;have c3:w3.cell? ⟨q,0,none⟩=some (.slice qa n qc):=(by simp[World.cell?,hq3]);have f3:w3.frozen? ⟨q,0,none⟩=false:=(by simp[World.frozen?,hq3]);have HQ3:=hide hq3;have HO3:=hide ho3;have HK3:=hide hk3;clear hown3 hgrow3 hnil3 hq3 ho3 hk3)
 go_end0;exact ⟨rfl,QAt.put hle HQ3.out HO3.out HK3.out⟩
theorem qPop_any (B q n:Nat) (f:Nat→Nat) (w:World) (h:QAt w B q f (n+1)) (hn:n≤1000):Calls Tryz.prog 204 #[.pointer (some ⟨q,0,none⟩)] w fun e w'=>e=.returned (.iface 155 (.pointer (some ⟨f n,0,none⟩)))∧QAt w' B q f n∧HK B q w w':=by
 obtain ⟨a,c,hq,ho⟩:=h.at_;obtain ⟨g,cap,hs,hcap⟩:=own_form ho (by omega);injection hs with e1 _ e3
 subst e1 e3;have hle:=h.le;have HO:=hide ho;have HQ:=hide hq;have c0:w.cell? ⟨q,0,none⟩=some (.slice (some ⟨g,0,none⟩) (n+1) c):=by simp[World.cell?,hq]
 have f0:w.frozen? ⟨q,0,none⟩=false:=by simp[World.frozen?,hq]
 have c1:w.cell? ⟨g,n,none⟩=some (.iface 155 (.pointer (some ⟨f n,0,none⟩))):=(ho.cellAt n (by omega)).trans (rowV_get f (by omega));have hz:(((n+1:Nat):Int) - 1)=n:=by omega
 clear h hq ho;go_enter Tryz.func204,Tryz.ntmps204;go_wp2;go_ret;refine ⟨rfl,QAt.put hle HQ.out ?_ (HK.refl _ _ _)⟩;refine ⟨by simp[rowV_length],?_⟩;rcases HO.out.2 with ⟨h1,_⟩ | ⟨g',cap',cur,h1,h2,h3,h4,h5,h6,h7⟩
 ·cases h1
 ·injection h1 with e1 _ e3
  injection e1 with e1
  injection e1 with e1
  subst e1 e3;refine .inr ⟨g,c,cur,rfl,h2,h3,by omega,h5,h6,?_⟩;have:=congrArg (List.take (n*1)) h7;rw[List.take_take,Nat.min_eq_left (by omega)]at this;rw[this];unfold rowV;rw[List.range_succ,List.map_append,List.take_append_of_le_length (by simp),List.take_of_length_le (by simp)]
end Go.Proofs.YticfcjmlphhpgaaGreatDoor
