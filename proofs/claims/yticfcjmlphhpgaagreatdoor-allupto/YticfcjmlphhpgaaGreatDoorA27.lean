import Derived.Test.YticfcjmlphhpgaaGreatDoorA02
import Derived.Test.YticfcjmlphhpgaaGreatDoorA08
import Derived.Test.YticfcjmlphhpgaaGreatDoorA20
set_option maxRecDepth 20000
set_option maxHeartbeats 2000000
namespace Go.Proofs.YticfcjmlphhpgaaGreatDoor
open Go.RowKit
structure Ns where
 pos:Nat
 e:Int
 bad:Nat
 l:List Nd
def Ns.fail (st:Ns) (e:Int) (p:Nat):Ns:=if st.e=0 then ⟨st.pos,e,p,st.l⟩ else st
def Ns.failIf (st:Ns) (c:Bool) (e:Int) (p:Nat):Ns:=if c=true then st.fail e p else st
def Ns.push (st:Ns) (n:Nd):Ns:=⟨st.pos,st.e,st.bad,st.l++[n]⟩
def nextN (s:Bs) (most:Nat) (st:Ns):Ns × ByteArray:=
 if st.e≠0 then (st,⟨#[]⟩) else match cutF (s.drop st.pos) most with
  | .wait=>(st.fail 2 s.length,⟨#[]⟩)
  | .bad e=>(st.fail e st.pos,⟨#[]⟩)
  | .ok t _ n=>(⟨st.pos+n,st.e,st.bad,st.l⟩,⟨t.toArray⟩)
def hasB (t:ByteArray) (may:List ByteArray):Bool:=may.any fun w=>decide (t=w)
theorem hasB_iff (t:ByteArray) (may:List ByteArray):hasB t may=true↔t∈may:=by simp[hasB]
def wordN (s:Bs) (may:List ByteArray) (st:Ns):Ns × ByteArray:=
 if hasB (nextN s 8 st).2 may=true∧(nextN s 8 st).1.e=0 then nextN s 8 st else ((nextN s 8 st).1.fail 5 st.pos,⟨#[]⟩)
def mustN (s:Bs) (w:ByteArray) (st:Ns):Ns:=(wordN s [w] st).1
def headN (s:Bs) (deep:Nat) (st:Ns):Ns:=mustN s wType (((mustN s wOpen st).failIf (decide (5<deep)) 8 st.pos).failIf (decide (st.l.length=30)) 9 st.pos)
def dataN (s:Bs) (path:ByteArray) (k:Int) (st:Ns):Ns:=mustN s wClose ((nextN s 100 st).1.push ⟨path,k,(nextN s 100 st).2⟩)
def fileN (s:Bs) (path:ByteArray) (st:Ns):Ns:=
 if (wordN s [wExec,wData] st).2=wExec then dataN s path 2 (mustN s wData (mustN s wNone (wordN s [wExec,wData] st).1)) else dataN s path 1 (wordN s [wExec,wData] st).1
def leadN (s:Bs) (path:ByteArray) (st:Ns):Ns:=mustN s wClose (((nextN s 100 st).1.failIf (!fits 3 (nextN s 100 st).2.data.toList) 6 st.pos).push ⟨path,3,(nextN s 100 st).2⟩)
def linkN (s:Bs) (path:ByteArray) (st:Ns):Ns:=leadN s path (mustN s wTo st)
def kindN (s:Bs) (D:ByteArray→Nat→Ns→Ns) (path:ByteArray) (deep:Nat) (w:Ns × ByteArray):Ns:=
 if w.2=wFile then fileN s path w.1 else if w.2=wLink then linkN s path w.1 else if w.2=wDir then D path deep (w.1.push ⟨path,4,⟨#[]⟩⟩) else w.1
def nodeB (s:Bs) (D:ByteArray→Nat→Ns→Ns) (path:ByteArray) (deep:Nat) (st:Ns):Ns:=kindN s D path deep (wordN s [wFile,wLink,wDir] (headN s deep st))
def nameN (s:Bs) (last:ByteArray) (st:Ns):Ns × ByteArray:=
 (mustN s wNode (((nextN s 48 st).1.failIf (!isNameB (nextN s 48 st).2.data.toList) 6 st.pos).failIf (notAbove (nextN s 48 st).2 last) 7 st.pos),(nextN s 48 st).2)
def entryN (s:Bs) (last:ByteArray) (st:Ns):Ns × ByteArray:=nameN s last (mustN s wName (mustN s wOpen st))
def dirN (s:Bs):Nat→ByteArray→Nat→ByteArray→Ns→Ns
 | 0,_,_,_,st=>st
 | f+1,path,deep,last,st=>
  if (wordN s [wEntry,wClose] st).2=wEntry then
   dirN s f path deep (entryN s last (wordN s [wEntry,wClose] st).1).2 (mustN s wClose (nodeB s (fun p d x=>dirN s f p d ⟨#[]⟩ x) (prefixIn path++(entryN s last (wordN s [wEntry,wClose] st).1).2) (deep+1) (entryN s last (wordN s [wEntry,wClose] st).1).1))
  else (wordN s [wEntry,wClose] st).1
def nodeN (s:Bs) (f:Nat):ByteArray→Nat→Ns→Ns:=nodeB s (fun p d x=>dirN s f p d ⟨#[]⟩ x)
theorem dirN_entry (s:Bs) (f:Nat) (path:ByteArray) (deep:Nat) (last:ByteArray) (st:Ns) (h:(wordN s [wEntry,wClose] st).2=wEntry) :
  dirN s (f+1) path deep last st=dirN s f path deep (entryN s last (wordN s [wEntry,wClose] st).1).2 (mustN s wClose (nodeN s f (prefixIn path++(entryN s last (wordN s [wEntry,wClose] st).1).2) (deep+1) (entryN s last (wordN s [wEntry,wClose] st).1).1)):=by
 rw[dirN,if_pos h];rfl
theorem dirN_end (s:Bs) (f:Nat) (path:ByteArray) (deep:Nat) (last:ByteArray) (st:Ns) (h:¬ (wordN s [wEntry,wClose] st).2=wEntry) :
  dirN s (f+1) path deep last st=(wordN s [wEntry,wClose] st).1:=by
 rw[dirN,if_neg h]
def treeN (s:Bs):Ns:=nodeN s (s.length+1) ⟨#[]⟩ 0 (mustN s wNar ⟨0,0,0,[]⟩)
def readN (s:Bs):List Nd × Int × Nat:=
 let st:=(treeN s).failIf (decide ((treeN s).pos<s.length)) 10 (treeN s).pos
 if st.e=0 then (st.l,0,0) else ([],st.e,st.bad)
def Dead (e:Int) (p:Nat) (st:Ns):Prop:=e≠0∧st.e=e∧st.bad=p
theorem Dead.ne {e:Int} {p:Nat} {st:Ns} (h:Dead e p st):st.e≠0:=by rw[h.2.1];exact h.1
theorem Dead.of {e:Int} {p:Nat} {st:Ns} (h:Dead e p st) {st':Ns} (he:st'=st):Dead e p st':=he ▸ h
theorem fail_dead {st:Ns} (h:st.e≠0) (e:Int) (p:Nat):st.fail e p=st:=by unfold Ns.fail;rw[if_neg h]
theorem failIf_dead {st:Ns} (h:st.e≠0) (c:Bool) (e:Int) (p:Nat):st.failIf c e p=st:=by unfold Ns.failIf;rw[fail_dead h];split <;> rfl
theorem next_dead {st:Ns} (h:st.e≠0) (s:Bs) (m:Nat):nextN s m st=(st,⟨#[]⟩):=by unfold nextN;rw[if_pos h]
theorem word_dead {st:Ns} (h:st.e≠0) (s:Bs) (may:List ByteArray):wordN s may st=(st,⟨#[]⟩):=by
 unfold wordN;rw[next_dead h,if_neg (fun x=>h x.2),fail_dead h]
theorem must_dead {st:Ns} (h:st.e≠0) (s:Bs) (w:ByteArray):mustN s w st=st:=by unfold mustN;rw[word_dead h]
theorem head_dead {st:Ns} (h:st.e≠0) (s:Bs) (d:Nat):headN s d st=st:=by
 unfold headN;rw[must_dead h s wOpen,failIf_dead h,failIf_dead h,must_dead h]
theorem ne_none_file:¬ (⟨#[]⟩:ByteArray)=wFile:=by decide
theorem ne_none_link:¬ (⟨#[]⟩:ByteArray)=wLink:=by decide
theorem ne_none_dir:¬ (⟨#[]⟩:ByteArray)=wDir:=by decide
theorem ne_none_entry:¬ (⟨#[]⟩:ByteArray)=wEntry:=by decide
theorem ne_none_exec:¬ (⟨#[]⟩:ByteArray)=wExec:=by decide
theorem node_dead {st:Ns} (h:st.e≠0) (s:Bs) (D:ByteArray→Nat→Ns→Ns) (path:ByteArray) (deep:Nat):nodeB s D path deep st=st:=by
 unfold nodeB kindN;rw[head_dead h,word_dead h];simp only[if_neg ne_none_file,if_neg ne_none_link,if_neg ne_none_dir]
theorem dir_dead {st:Ns} (h:st.e≠0) (s:Bs) (f:Nat) (path:ByteArray) (deep:Nat) (last:ByteArray):dirN s f path deep last st=st:=by
 cases f with
 | zero=>rfl
 | succ f=>rw[dirN_end _ _ _ _ _ _ (by rw[word_dead h];exact ne_none_entry),word_dead h]
theorem data_dead {e:Int} {p:Nat} {st:Ns} (h:Dead e p st) (s:Bs) (path:ByteArray) (k:Int):Dead e p (dataN s path k st):=by
 unfold dataN;rw[next_dead h.ne];have h2:Dead e p ((st,(⟨#[]⟩:ByteArray)).1.push ⟨path,k,(st,(⟨#[]⟩:ByteArray)).2⟩):=h;rw[must_dead h2.ne];exact h2
theorem lead_dead {e:Int} {p:Nat} {st:Ns} (h:Dead e p st) (s:Bs) (path:ByteArray):Dead e p (leadN s path st):=by
 unfold leadN;rw[next_dead h.ne,failIf_dead (st:=(st,(⟨#[]⟩:ByteArray)).1) h.ne];have h2:Dead e p ((st,(⟨#[]⟩:ByteArray)).1.push ⟨path,3,(st,(⟨#[]⟩:ByteArray)).2⟩):=h;rw[must_dead h2.ne];exact h2
theorem name_dead {st:Ns} (h:st.e≠0) (s:Bs) (last:ByteArray):(nameN s last st).1=st:=by
 unfold nameN;rw[next_dead h];simp only;rw[failIf_dead h,failIf_dead h,must_dead h]
theorem fail_l (st:Ns) (e:Int) (p:Nat):(st.fail e p).l=st.l∧(st.fail e p).pos=st.pos:=by unfold Ns.fail;split <;> exact ⟨rfl,rfl⟩
theorem next_l (s:Bs) (m:Nat) (st:Ns):(nextN s m st).1.l=st.l:=by
 unfold nextN
 split
 ·rfl
 ·split
  ·exact (fail_l _ _ _).1
  ·exact (fail_l _ _ _).1
  ·rfl
theorem word_l (s:Bs) (may:List ByteArray) (st:Ns):(wordN s may st).1.l=st.l:=by
 unfold wordN
 split
 ·exact next_l _ _ _
 ·rw[(fail_l _ _ _).1];exact next_l _ _ _
theorem must_l (s:Bs) (w:ByteArray) (st:Ns):(mustN s w st).l=st.l:=word_l _ _ _
theorem failIf_l (st:Ns) (c:Bool) (e:Int) (p:Nat):(st.failIf c e p).l=st.l∧(st.failIf c e p).pos=st.pos:=by unfold Ns.failIf;split;exact fail_l _ _ _;exact ⟨rfl,rfl⟩
structure At (s:Bs) (st:Ns) (x:Pt):Prop where
 e:st.e=0
 left:x.left=s.drop st.pos
 pos:x.pos=st.pos
 le:st.pos≤s.length
theorem At.len {s:Bs} {st:Ns} {x:Pt} (h:At s st x):x.pos+x.left.length=s.length:=by
 rw[h.left,h.pos,List.length_drop];have:=h.le;omega
def Sim (s:Bs) (Q:Pt→Ns→Prop) (o:Ex Pt) (st:Ns):Prop:=match o with
 | .no e p=>Dead e p st
 | .yes y=>At s st y∧Q y st
theorem next_wait {s:Bs} {st:Ns} {x:Pt} (h:At s st x) {m:Nat} (hc:cutF x.left m=.wait):Dead 2 (x.pos+x.left.length) (nextN s m st).1∧(nextN s m st).2=⟨#[]⟩:=by
 rw[h.len];unfold nextN;rw[if_neg (by rw[h.e];simp),← h.left,hc];refine ⟨?_,rfl⟩;simp only[Ns.fail,if_pos h.e];exact ⟨by decide,rfl,rfl⟩
theorem cut_bad {l:Bs} {m:Nat} {e:Int} (h:cutF l m=.bad e):e≠0:=by
 unfold cutF at h
 split at h
 ·cases h
 ·split at h
  ·injection h with h;subst h;decide
  ·split at h
   ·cases h
   ·split at h
    ·cases h
    ·injection h with h;subst h;decide
theorem next_bad {s:Bs} {st:Ns} {x:Pt} (h:At s st x) {m:Nat} {e:Int} (hc:cutF x.left m=.bad e):Dead e x.pos (nextN s m st).1∧(nextN s m st).2=⟨#[]⟩:=by
 have hne:=cut_bad hc;unfold nextN;rw[if_neg (by rw[h.e];simp),← h.left,hc];refine ⟨?_,rfl⟩;simp only[Ns.fail,if_pos h.e];exact ⟨hne,rfl,h.pos.symm⟩
theorem next_ok {s:Bs} {st:Ns} {x:Pt} (h:At s st x) {m:Nat} {t rest:Bs} {n:Nat} (hc:cutF x.left m=.ok t rest n) (g:Gr):nextN s m st=(⟨st.pos+n,st.e,st.bad,st.l⟩,⟨t.toArray⟩)∧At s ⟨st.pos+n,st.e,st.bad,st.l⟩ ⟨rest,x.pos+n,g⟩:=by
 have hk:=cutF_ok hc;have hl:=h.len;refine ⟨?_,h.e,?_,by rw[h.pos],?_⟩
 ·unfold nextN;rw[if_neg (by rw[h.e];simp),← h.left,hc]
 ·show rest=s.drop (st.pos+n);rw[hk.2.2.2.2.2.1,h.left,List.drop_drop]
 ·show st.pos+n≤s.length;have:=hk.2.2.2.1;have:=h.pos;omega
theorem word_wait {s:Bs} {st:Ns} {x:Pt} (h:At s st x) {may:List ByteArray} (hc:cutF x.left 8=.wait):Dead 2 (x.pos+x.left.length) (wordN s may st).1∧(wordN s may st).2=⟨#[]⟩:=by
 have hn:=next_wait h hc;unfold wordN;rw[if_neg (fun e=>hn.1.ne e.2)];exact ⟨hn.1.of (fail_dead hn.1.ne _ _),rfl⟩
theorem word_bad {s:Bs} {st:Ns} {x:Pt} (h:At s st x) {may:List ByteArray} {e:Int} (hc:cutF x.left 8=.bad e):Dead e x.pos (wordN s may st).1∧(wordN s may st).2=⟨#[]⟩:=by
 have hn:=next_bad h hc;unfold wordN;rw[if_neg (fun e=>hn.1.ne e.2)];exact ⟨hn.1.of (fail_dead hn.1.ne _ _),rfl⟩
theorem word_ok {s:Bs} {st:Ns} {x:Pt} (h:At s st x) {may:List ByteArray} {t rest:Bs} {n:Nat} (hc:cutF x.left 8=.ok t rest n) (g:Gr) (hm:(⟨t.toArray⟩:ByteArray)∈may):wordN s may st=(⟨st.pos+n,st.e,st.bad,st.l⟩,⟨t.toArray⟩)∧At s ⟨st.pos+n,st.e,st.bad,st.l⟩ ⟨rest,x.pos+n,g⟩:=by
 obtain ⟨h1,h2⟩:=next_ok h hc g;unfold wordN;rw[h1,if_pos ⟨(hasB_iff _ _).2 hm,h.e⟩];exact ⟨rfl,h2⟩
theorem word_no {s:Bs} {st:Ns} {x:Pt} (h:At s st x) {may:List ByteArray} {t rest:Bs} {n:Nat} (hc:cutF x.left 8=.ok t rest n) (hm:¬ (⟨t.toArray⟩:ByteArray)∈may):Dead 5 x.pos (wordN s may st).1∧(wordN s may st).2=⟨#[]⟩:=by
 obtain ⟨h1,h2⟩:=next_ok h hc x.gr;unfold wordN;rw[h1,if_neg (fun e=>hm ((hasB_iff _ _).1 e.1))];refine ⟨?_,rfl⟩;simp only[Ns.fail,if_pos h.e];exact ⟨by decide,rfl,h.pos.symm⟩
theorem sim_word {s:Bs} {Q:Pt→Ns→Prop} {w:ByteArray} {K:List It} {x:Pt} {st:Ns} (G:Ns→Ns) (h:At s st x)
  (hd:∀e p st',Dead e p st'→Dead e p (G st'))
  (hk:∀y st',At s st' y→y.gr=x.gr→st'.l=st.l→y.left.length+8≤x.left.length→Sim s Q (run K y) (G st')) :
  Sim s Q (run (.word w :: K) x) (G (mustN s w st)):=by
 rw[run_cons];unfold one;show Sim s Q (Ex.then (match cutF x.left 8 with | .wait=>_ | .bad e=>_ | .ok t rest n=>_) _) _;cases hc:cutF x.left 8 with
 | wait=>exact hd _ _ _ (word_wait h hc).1
 | bad e=>exact hd _ _ _ (word_bad h hc).1
 | ok t rest n=>
  simp only[take_word]
  by_cases hw:(⟨t.toArray⟩:ByteArray)=w
  ·rw[if_pos hw];obtain ⟨h1,h2⟩:=word_ok (may:=[w]) h hc x.gr (by simp[hw]);have e:mustN s w st=⟨st.pos+n,st.e,st.bad,st.l⟩:=by unfold mustN;rw[h1]
   rw[e];simp only[Ex.then,List.nil_append];exact hk _ _ h2 rfl rfl (cutF_len hc).1
  ·rw[if_neg hw];exact hd _ _ _ (word_no (may:=[w]) h hc (by simp[hw])).1
theorem one_eq (i:It) (x:Pt):one i x=match cutF x.left i.most with
 | .wait=>.no 2 (x.pos+x.left.length)
 | .bad e=>.no e x.pos
 | .ok s rest n=>match takeF x.gr i ⟨s.toArray⟩ with
  | .err e=>.no e x.pos
  | .more g push=>.yes (⟨rest,x.pos+n,g⟩,push):=rfl
theorem sim_data {s:Bs} {x:Pt} {st:Ns} (ns:List Nd) (D:Ds) (path p:ByteArray) (k:Int) (hk:k=1∨k=2) (h:At s st x) (hg:x.gr=⟨ns++[⟨path,k,⟨#[]⟩⟩],D,p⟩) (hl:st.l=ns) :
  Sim s (fun y st'=>y.gr.dirs=D∧st'.l=y.gr.nodes∧st'.l.length=ns.length+1) (run [.data,.word wClose] x) (dataN s path k st):=by
 rw[run_cons,one_eq,hg];show Sim s _ (Ex.then (match cutF x.left 100 with | .wait=>_ | .bad e=>_ | .ok t rest n=>_) _) _;cases hc:cutF x.left 100 with
 | wait=>
  obtain ⟨h1,h2⟩:=next_wait h hc;unfold dataN;have h3:Dead 2 (x.pos+x.left.length) ((nextN s 100 st).1.push ⟨path,k,(nextN s 100 st).2⟩):=h1;exact h3.of (must_dead h3.ne _ _)
 | bad e=>
  obtain ⟨h1,h2⟩:=next_bad h hc;unfold dataN;have h3:Dead e x.pos ((nextN s 100 st).1.push ⟨path,k,(nextN s 100 st).2⟩):=h1;exact h3.of (must_dead h3.ne _ _)
 | ok t rest n=>
  have hlen:=cutF_len hc;have hf:fits k (⟨t.toArray⟩:ByteArray).data.toList=true:=by
   unfold fits;rw[if_neg (by omega),if_pos hk];simp;omega
  simp only[take_data,lastN_snoc,setN_snoc,hf,if_true,Ex.then,List.nil_append];obtain ⟨h1,h2⟩:=next_ok h hc ⟨ns++[⟨path,k,⟨t.toArray⟩⟩],D,p⟩;unfold dataN;rw[h1];refine sim_word (fun z=>z) (x:=⟨rest,x.pos+n,⟨ns++[⟨path,k,⟨t.toArray⟩⟩],D,p⟩⟩) (st:=Ns.push ⟨st.pos+n,st.e,st.bad,st.l⟩ ⟨path,k,⟨t.toArray⟩⟩) ⟨h2.e,h2.left,h2.pos,h2.le⟩ (fun _ _ _ h=>h) ?_;intro y st' hy hyg hyl _;rw[run_nil];refine ⟨hy,?_⟩;show y.gr.dirs=D∧st'.l=y.gr.nodes∧st'.l.length=ns.length+1;rw[hyg,hyl,Ns.push];simp[hl]
theorem sim_lead {s:Bs} {x:Pt} {st:Ns} (ns:List Nd) (D:Ds) (path p:ByteArray) (h:At s st x) (hg:x.gr=⟨ns++[⟨path,3,⟨#[]⟩⟩],D,p⟩) (hl:st.l=ns) :
  Sim s (fun y st'=>y.gr.dirs=D∧st'.l=y.gr.nodes∧st'.l.length=ns.length+1) (run [.data,.word wClose] x) (leadN s path st):=by
 rw[run_cons,one_eq,hg];show Sim s _ (Ex.then (match cutF x.left 100 with | .wait=>_ | .bad e=>_ | .ok t rest n=>_) _) _;cases hc:cutF x.left 100 with
 | wait=>
  obtain ⟨h1,h2⟩:=next_wait h hc;unfold leadN;rw[failIf_dead h1.ne];have h3:Dead 2 (x.pos+x.left.length) ((nextN s 100 st).1.push ⟨path,3,(nextN s 100 st).2⟩):=h1;exact h3.of (must_dead h3.ne _ _)
 | bad e=>
  obtain ⟨h1,h2⟩:=next_bad h hc;unfold leadN;rw[failIf_dead h1.ne];have h3:Dead e x.pos ((nextN s 100 st).1.push ⟨path,3,(nextN s 100 st).2⟩):=h1;exact h3.of (must_dead h3.ne _ _)
 | ok t rest n=>
  obtain ⟨h1,h2⟩:=next_ok h hc ⟨ns++[⟨path,3,⟨t.toArray⟩⟩],D,p⟩;unfold leadN;rw[h1];simp only[take_data,lastN_snoc,setN_snoc];cases hf:fits 3 (⟨t.toArray⟩:ByteArray).data.toList with
  | true=>
   simp only[if_true,Ex.then,List.nil_append,Bool.not_true,Ns.failIf];refine sim_word (fun z=>z) (x:=⟨rest,x.pos+n,⟨ns++[⟨path,3,⟨t.toArray⟩⟩],D,p⟩⟩) (st:=Ns.push ⟨st.pos+n,st.e,st.bad,st.l⟩ ⟨path,3,⟨t.toArray⟩⟩) ⟨h2.e,h2.left,h2.pos,h2.le⟩ (fun _ _ _ h=>h) ?_;intro y st' hy hyg hyl _;rw[run_nil];refine ⟨hy,?_⟩;show y.gr.dirs=D∧st'.l=y.gr.nodes∧st'.l.length=ns.length+1;rw[hyg,hyl,Ns.push];simp[hl]
  | false=>
   simp only[Ex.then,Bool.not_false,Ns.failIf,if_true,Ns.fail,if_pos h.e,Ns.push];have h3:Dead 6 x.pos ⟨st.pos+n,6,st.pos,st.l++[⟨path,3,⟨t.toArray⟩⟩]⟩:=⟨by decide,rfl,h.pos.symm⟩;exact h3.of (must_dead h3.ne _ _)
theorem sim_file {s:Bs} {x:Pt} {st:Ns} (ns:List Nd) (D:Ds) (path p:ByteArray) (h:At s st x) (hg:x.gr=⟨ns++[⟨path,1,⟨#[]⟩⟩],D,p⟩) (hl:st.l=ns) :
  Sim s (fun y st'=>y.gr.dirs=D∧st'.l=y.gr.nodes∧st'.l.length=ns.length+1) (run [.inFile] x) (fileN s path st):=by
 rw[run_cons,one_eq,hg];show Sim s _ (Ex.then (match cutF x.left 8 with | .wait=>_ | .bad e=>_ | .ok t rest n=>_) _) _;unfold fileN;cases hc:cutF x.left 8 with
 | wait=>
  obtain ⟨h1,h2⟩:=word_wait (may:=[wExec,wData]) h hc;rw[h2,if_neg ne_none_exec];exact data_dead h1 _ _ _
 | bad e=>
  obtain ⟨h1,h2⟩:=word_bad (may:=[wExec,wData]) h hc;rw[h2,if_neg ne_none_exec];exact data_dead h1 _ _ _
 | ok t rest n=>
  simp only[take_inFile,lastN_snoc,setN_snoc]
  by_cases h1:(⟨t.toArray⟩:ByteArray)=wExec
  ·obtain ⟨hw,ha⟩:=word_ok (may:=[wExec,wData]) h hc ⟨ns++[⟨path,2,⟨#[]⟩⟩],D,p⟩ (by simp[h1]);rw[hw];simp only[if_pos h1,Ex.then,List.append_nil];refine sim_word (fun z=>dataN s path 2 (mustN s wData z)) ha (fun e q z hz=>data_dead (hz.of (must_dead hz.ne _ _)) _ _ _) ?_;intro y st1 hy hyg hyl _;refine sim_word (fun z=>dataN s path 2 z) hy (fun e q z hz=>data_dead hz _ _ _) ?_;intro y2 st2 hy2 hyg2 hyl2 _;exact sim_data ns D path p 2 (.inr rfl) hy2 (by rw[hyg2,hyg]) (by rw[hyl2,hyl];exact hl)
  ·by_cases h2:(⟨t.toArray⟩:ByteArray)=wData
   ·obtain ⟨hw,ha⟩:=word_ok (may:=[wExec,wData]) h hc ⟨ns++[⟨path,1,⟨#[]⟩⟩],D,p⟩ (by simp[h2]);rw[hw];simp only[if_neg h1,if_pos h2,Ex.then,List.append_nil];exact sim_data ns D path p 1 (.inl rfl) ha rfl hl
   ·obtain ⟨hd,he⟩:=word_no (may:=[wExec,wData]) h hc (by simp[h1,h2]);rw[he];simp only[if_neg h1,if_neg h2,if_neg ne_none_exec,Ex.then];exact data_dead hd _ _ _
def QN (D:Ds) (y:Pt) (st:Ns):Prop:=y.gr.dirs=D∧st.l=y.gr.nodes∧st.l.length≤30
theorem Sim.mono {s:Bs} {Q Q':Pt→Ns→Prop} {o:Ex Pt} {st:Ns} (h:Sim s Q o st) (hq:∀y st,Q y st→Q' y st):Sim s Q' o st:=by
 cases o with
 | no e p=>exact h
 | yes y=>exact ⟨h.1,hq _ _ h.2⟩
def DirSim (s:Bs) (f:Nat):Prop:=∀(ns:List Nd) (D:Ds) (path last p:ByteArray) (x:Pt) (st:Ns),At s st x→x.gr=⟨ns,D++[(prefixIn path,last)],p⟩→st.l=ns→ns.length≤30→x.left.length<f →
 Sim s (QN D) (run [.inDir] x) (dirN s f path D.length last st)
theorem sim_kind {s:Bs} {f:Nat} (hD:DirSim s f) (ns:List Nd) (D:Ds) (path p:ByteArray) {x:Pt} {st:Ns} (h:At s st x) (hg:x.gr=⟨ns++[⟨path,0,⟨#[]⟩⟩],D,p⟩) (hl:st.l=ns) (hn:ns.length<30) (hx:x.left.length<f) :
  Sim s (QN D) (run [.kind] x) (kindN s (fun p d x=>dirN s f p d ⟨#[]⟩ x) path D.length (wordN s [wFile,wLink,wDir] st)):=by
 rw[run_cons,one_eq,hg];show Sim s _ (Ex.then (match cutF x.left 8 with | .wait=>_ | .bad e=>_ | .ok t rest n=>_) _) _;unfold kindN;cases hc:cutF x.left 8 with
 | wait=>
  obtain ⟨h1,h2⟩:=word_wait (may:=[wFile,wLink,wDir]) h hc;rw[h2,if_neg ne_none_file,if_neg ne_none_link,if_neg ne_none_dir];exact h1
 | bad e=>
  obtain ⟨h1,h2⟩:=word_bad (may:=[wFile,wLink,wDir]) h hc;rw[h2,if_neg ne_none_file,if_neg ne_none_link,if_neg ne_none_dir];exact h1
 | ok t rest n=>
  have hlen:=cutF_len hc;simp only[take_kind,lastN_snoc,setN_snoc]
  by_cases h1:(⟨t.toArray⟩:ByteArray)=wFile
  ·obtain ⟨hw,ha⟩:=word_ok (may:=[wFile,wLink,wDir]) h hc ⟨ns++[⟨path,1,⟨#[]⟩⟩],D,p⟩ (by simp[h1]);rw[hw];simp only[if_pos h1,Ex.then,List.append_nil];exact (sim_file ns D path p ha rfl hl).mono fun y z hq=>⟨hq.1,hq.2.1,by rw[hq.2.2];omega⟩
  ·by_cases h2:(⟨t.toArray⟩:ByteArray)=wLink
   ·obtain ⟨hw,ha⟩:=word_ok (may:=[wFile,wLink,wDir]) h hc ⟨ns++[⟨path,3,⟨#[]⟩⟩],D,p⟩ (by simp[h2]);rw[hw];simp only[if_neg h1,if_pos h2,Ex.then,List.append_nil];unfold linkN;refine sim_word (fun z=>leadN s path z) ha (fun e q z hz=>lead_dead hz _ _) ?_;intro y st1 hy hyg hyl _;exact (sim_lead ns D path p hy hyg (by rw[hyl];exact hl)).mono fun y z hq=>⟨hq.1,hq.2.1,by rw[hq.2.2];omega⟩
   ·by_cases h3:(⟨t.toArray⟩:ByteArray)=wDir
    ·obtain ⟨hw,ha⟩:=word_ok (may:=[wFile,wLink,wDir]) h hc ⟨ns++[⟨path,4,⟨#[]⟩⟩],D++[(prefixIn path,⟨#[]⟩)],p⟩ (by simp[h3]);rw[hw];simp only[if_neg h1,if_neg h2,if_pos h3,Ex.then,List.append_nil];exact hD (ns++[⟨path,4,⟨#[]⟩⟩]) D path ⟨#[]⟩ p _ _ ⟨ha.e,ha.left,ha.pos,ha.le⟩ rfl (by simp[Ns.push,hl]) (by simp;omega) (by simp only;omega)
    ·obtain ⟨hd,he⟩:=word_no (may:=[wFile,wLink,wDir]) h hc (by simp[h1,h2,h3]);rw[he];simp only[if_neg h1,if_neg h2,if_neg h3,if_neg ne_none_file,if_neg ne_none_link,if_neg ne_none_dir,Ex.then];exact hd
theorem sim_node {s:Bs} {f:Nat} (hD:DirSim s f) (ns:List Nd) (D:Ds) (path:ByteArray) {x:Pt} {st:Ns} (h:At s st x) (hg:x.gr=⟨ns,D,path⟩) (hl:st.l=ns) (hn:ns.length≤30) (hx:x.left.length<f) :
  Sim s (QN D) (run [.bracket] x) (nodeN s f path D.length st):=by
 rw[run_cons,one_eq,hg];show Sim s _ (Ex.then (match cutF x.left 8 with | .wait=>_ | .bad e=>_ | .ok t rest n=>_) _) _;unfold nodeN nodeB headN;have hdead:∀e q z,Dead e q z→Dead e q (kindN s (fun p d x=>dirN s f p d ⟨#[]⟩ x) path D.length (wordN s [wFile,wLink,wDir] (mustN s wType z))):=by
  intro e q z hz;rw[must_dead hz.ne,word_dead hz.ne];unfold kindN;simp only[if_neg ne_none_file,if_neg ne_none_link,if_neg ne_none_dir];exact hz
 have hwait:∀e q,Dead e q (wordN s [wOpen] st).1→Dead e q (kindN s (fun p d x=>dirN s f p d ⟨#[]⟩ x) path D.length (wordN s [wFile,wLink,wDir] (mustN s wType (((mustN s wOpen st).failIf (decide (5<D.length)) 8 st.pos).failIf (decide (st.l.length=30)) 9 st.pos)))):=by
  intro e q hz;have hz:Dead e q (mustN s wOpen st):=hz;rw[failIf_dead hz.ne,failIf_dead hz.ne];exact hdead _ _ _ hz
 cases hc:cutF x.left 8 with
 | wait=>exact hwait _ _ (word_wait h hc).1
 | bad e=>exact hwait _ _ (word_bad h hc).1
 | ok t rest n=>
  have hlen:=cutF_len hc;simp only[take_bracket]
  by_cases h1:(⟨t.toArray⟩:ByteArray)=wOpen
  ·obtain ⟨hw,ha⟩:=word_ok (may:=[wOpen]) h hc ⟨ns++[⟨path,0,⟨#[]⟩⟩],D,path⟩ (by simp[h1]);have hm:mustN s wOpen st=⟨st.pos+n,st.e,st.bad,st.l⟩:=by unfold mustN;rw[hw]
   rw[hm,if_pos h1]
   by_cases h5:5<D.length
   ·have hd:Dead 8 x.pos (Ns.failIf ⟨st.pos+n,st.e,st.bad,st.l⟩ (decide (5<D.length)) 8 st.pos):=by
     simp only[Ns.failIf,decide_eq_true h5,if_true,Ns.fail,if_pos h.e];exact ⟨by decide,rfl,h.pos.symm⟩
    rw[failIf_dead hd.ne,if_pos h5];exact hdead _ _ _ hd
   ·rw[if_neg h5];have e5:Ns.failIf ⟨st.pos+n,st.e,st.bad,st.l⟩ (decide (5<D.length)) 8 st.pos=⟨st.pos+n,st.e,st.bad,st.l⟩:=by
     simp only[Ns.failIf,decide_eq_false h5];rfl
    rw[e5]
    by_cases h30:30≤ns.length
    ·have hd:Dead 9 x.pos (Ns.failIf ⟨st.pos+n,st.e,st.bad,st.l⟩ (decide (st.l.length=30)) 9 st.pos):=by
      have:st.l.length=30:=by rw[hl];omega
      simp only[Ns.failIf,decide_eq_true this,if_true,Ns.fail,if_pos h.e];exact ⟨by decide,rfl,h.pos.symm⟩
     rw[if_pos h30];exact hdead _ _ _ hd
    ·rw[if_neg h30];have e3:Ns.failIf ⟨st.pos+n,st.e,st.bad,st.l⟩ (decide (st.l.length=30)) 9 st.pos=⟨st.pos+n,st.e,st.bad,st.l⟩:=by
      have:¬ st.l.length=30:=by rw[hl];omega
      simp only[Ns.failIf,decide_eq_false this];rfl
     rw[e3];simp only[Ex.then,List.append_nil];refine sim_word (fun z=>kindN s (fun p d x=>dirN s f p d ⟨#[]⟩ x) path D.length (wordN s [wFile,wLink,wDir] z)) ha (fun e q z hz=>?_) ?_
     ·rw[word_dead hz.ne];unfold kindN;simp only[if_neg ne_none_file,if_neg ne_none_link,if_neg ne_none_dir];exact hz
     ·intro y st1 hy hyg hyl hyx;exact sim_kind hD ns D path path hy hyg (by rw[hyl];exact hl) (by omega) (by simp only at hyx;omega)
  ·rw[if_neg h1];exact hwait _ _ (word_no h hc (by simp[h1])).1
theorem sim_dir (s:Bs):∀f,DirSim s f
 | 0=>fun _ _ _ _ _ _ _ _ _ _ _ hx=>absurd hx (Nat.not_lt_zero _)
 | f+1=>by
  intro ns D path last p x st h hg hl hn hx;have IH:=sim_dir s f;rw[run_cons,one_eq,hg];show Sim s _ (Ex.then (match cutF x.left 8 with | .wait=>_ | .bad e=>_ | .ok t rest n=>_) _) _;have hend:∀e q,Dead e q (wordN s [wEntry,wClose] st).1→(wordN s [wEntry,wClose] st).2=⟨#[]⟩→Dead e q (dirN s (f+1) path D.length last st):=by
   intro e q hz h2;rw[dirN_end _ _ _ _ _ _ (by rw[h2];exact ne_none_entry)];exact hz
  cases hc:cutF x.left 8 with
  | wait=>exact hend _ _ (word_wait h hc).1 (word_wait h hc).2
  | bad e=>exact hend _ _ (word_bad h hc).1 (word_bad h hc).2
  | ok t rest n=>
   have hlen:=cutF_len hc;simp only[take_inDir]
   by_cases h1:(⟨t.toArray⟩:ByteArray)=wEntry
   ·obtain ⟨hw,ha⟩:=word_ok (may:=[wEntry,wClose]) h hc ⟨ns,D++[(prefixIn path,last)],p⟩ (by simp[h1]);rw[if_pos h1,dirN_entry _ _ _ _ _ _ (by rw[hw];exact h1),hw];simp only[Ex.then,List.append_nil];unfold entryN;have hrest:∀(G:Ns→Ns × ByteArray) (z:Ns) (e:Int) (q:Nat),(∀z,z.e≠0→(G z).1=z)→Dead e q z→Dead e q (dirN s f path D.length (G z).2 (mustN s wClose (nodeN s f (prefixIn path++(G z).2) (D.length+1) (G z).1))):=by
     intro G z e q hG hz;rw[hG z hz.ne];unfold nodeN;rw[node_dead hz.ne,must_dead hz.ne,dir_dead hz.ne];exact hz
    refine sim_word (fun z=>dirN s f path D.length (nameN s last (mustN s wName z)).2 (mustN s wClose (nodeN s f (prefixIn path++(nameN s last (mustN s wName z)).2) (D.length+1) (nameN s last (mustN s wName z)).1))) ha (fun e q z hz=>hrest (fun z=>nameN s last (mustN s wName z)) z e q (fun z hz=>by rw[must_dead hz];exact name_dead hz _ _) hz) ?_;intro y1 st1 hy1 hg1 hl1 hx1;refine sim_word (fun z=>dirN s f path D.length (nameN s last z).2 (mustN s wClose (nodeN s f (prefixIn path++(nameN s last z).2) (D.length+1) (nameN s last z).1))) hy1 (fun e q z hz=>hrest (fun z=>nameN s last z) z e q (fun z hz=>name_dead hz _ _) hz) ?_;intro y2 st2 hy2 hg2 hl2 hx2;have hg2:y2.gr=⟨ns,D++[(prefixIn path,last)],p⟩:=by rw[hg2,hg1]
    have hl2:st2.l=ns:=by rw[hl2,hl1];exact hl
    simp only at hx1;rw[run_cons,one_eq,hg2];show Sim s _ (Ex.then (match cutF y2.left 48 with | .wait=>_ | .bad e=>_ | .ok t rest n=>_) _) _;have hafter:∀e q c2 t2,Dead e q c2→Dead e q (dirN s f path D.length t2 (mustN s wClose (nodeN s f (prefixIn path++t2) (D.length+1) (mustN s wNode c2)))):=by
     intro e q c2 t2 hz;unfold nodeN;rw[must_dead hz.ne,node_dead hz.ne,must_dead hz.ne,dir_dead hz.ne];exact hz
    cases hc2:cutF y2.left 48 with
    | wait=>
     have hz:=(next_wait hy2 hc2).1;unfold nameN;simp only[failIf_dead hz.ne];exact hafter _ _ _ _ hz
    | bad e=>
     have hz:=(next_bad hy2 hc2).1;unfold nameN;simp only[failIf_dead hz.ne];exact hafter _ _ _ _ hz
    | ok t2 rest2 n2=>
     have hlen2:=cutF_len hc2;obtain ⟨hn1,hn2⟩:=next_ok hy2 hc2 ⟨ns,D++[(prefixIn path,⟨t2.toArray⟩)],prefixIn path++⟨t2.toArray⟩⟩;unfold nameN;rw[hn1];simp only[take_name,lastD_snoc,setD_snoc];cases hN:isNameB (⟨t2.toArray⟩:ByteArray).data.toList with
     | false=>
      simp only[if_true,Ex.then,Bool.not_false];have hz:Dead 6 y2.pos (Ns.failIf ⟨st2.pos+n2,st2.e,st2.bad,st2.l⟩ true 6 st2.pos):=by
       simp only[Ns.failIf,if_true,Ns.fail,if_pos hy2.e];exact ⟨by decide,rfl,hy2.pos.symm⟩
      rw[failIf_dead hz.ne];exact hafter _ _ _ _ hz
     | true=>
      have e6:Ns.failIf ⟨st2.pos+n2,st2.e,st2.bad,st2.l⟩ (!true) 6 st2.pos=⟨st2.pos+n2,st2.e,st2.bad,st2.l⟩:=rfl;rw[e6,if_neg (by simp)];cases hA:notAbove ⟨t2.toArray⟩ last with
      | true=>
       simp only[if_true,Ex.then];have hz:Dead 7 y2.pos (Ns.failIf ⟨st2.pos+n2,st2.e,st2.bad,st2.l⟩ true 7 st2.pos):=by
        simp only[Ns.failIf,if_true,Ns.fail,if_pos hy2.e];exact ⟨by decide,rfl,hy2.pos.symm⟩
       exact hafter _ _ _ _ hz
      | false=>
       have e7:Ns.failIf ⟨st2.pos+n2,st2.e,st2.bad,st2.l⟩ false 7 st2.pos=⟨st2.pos+n2,st2.e,st2.bad,st2.l⟩:=rfl;rw[e7,if_neg (by simp)];simp only[Ex.then,List.nil_append];refine sim_word (fun z=>dirN s f path D.length ⟨t2.toArray⟩ (mustN s wClose (nodeN s f (prefixIn path++⟨t2.toArray⟩) (D.length+1) z))) hn2 (fun e q z hz=>?_) ?_
       ·unfold nodeN;rw[node_dead hz.ne,must_dead hz.ne,dir_dead hz.ne];exact hz
       ·intro y3 st3 hy3 hg3 hl3 hx3;simp only at hx3 hl3;have hnode:=sim_node IH ns (D++[(prefixIn path,⟨t2.toArray⟩)]) (prefixIn path++⟨t2.toArray⟩) hy3 hg3 (by rw[hl3];exact hl2) hn (by omega);rw[List.length_append,List.length_singleton]at hnode;rw[run_then];have hle:∀y4,run [.bracket] y3=.yes y4→y4.left.length≤y3.left.length:=fun y4 h4=>run_len _ _ _ h4
        cases ho:run [.bracket] y3 with
        | no e q=>
         rw[ho]at hnode;have hz:Dead e q (nodeN s f (prefixIn path++⟨t2.toArray⟩) (D.length+1) st3):=hnode;simp only[Ex.then];rw[must_dead hz.ne,dir_dead hz.ne];exact hz
        | yes y4=>
         rw[ho]at hnode;obtain ⟨ha4,hd4,hl4,hm4⟩:=hnode;have hx4:=hle y4 ho;simp only[Ex.then];generalize nodeN s f (prefixIn path++⟨t2.toArray⟩) (D.length+1) st3=st4 at *;refine sim_word (fun z=>dirN s f path D.length ⟨t2.toArray⟩ z) ha4 (fun e q z hz=>hz.of (dir_dead hz.ne _ _ _ _ _)) ?_;intro y5 st5 hy5 hg5 hl5 hx5;refine IH y4.gr.nodes D path ⟨t2.toArray⟩ y4.gr.path y5 st5 hy5 ?_ (by rw[hl5];exact hl4) (by rw[← hl4];exact hm4) (by omega);rw[hg5,← hd4]
   ·by_cases h2:(⟨t.toArray⟩:ByteArray)=wClose
    ·obtain ⟨hw,ha⟩:=word_ok (may:=[wEntry,wClose]) h hc ⟨ns,D,p⟩ (by simp[h2]);rw[if_neg h1,if_pos h2,dirN_end _ _ _ _ _ _ (by rw[hw];exact h1),hw];simp only[Ex.then,List.append_nil];rw[run_nil];have hD:(D++[(prefixIn path,last)]).take ((D++[(prefixIn path,last)]).length - 1)=D:=by simp
     rw[hD];exact ⟨ha,rfl,hl,by rw[hl];exact hn⟩
    ·rw[if_neg h1,if_neg h2];obtain ⟨hd,he⟩:=word_no (may:=[wEntry,wClose]) h hc (by simp[h1,h2]);exact hend _ _ hd he
theorem size_set (w:World) (a:Addr) (v:Value):(w.setCell a v).heap.size=w.heap.size:=by simp[World.setCell]
def BX (B R:Nat) (w w':World):Prop:=(∀Z,Z≤B→Z≤R→Below Z w w')∧∀k,k<B→k≠R→w'.heap[k]?=w.heap[k]?
theorem BX.refl (B R:Nat) (w:World):BX B R w w:=⟨fun Z _ _=>Below.refl Z w,fun _ _ _=>rfl⟩
theorem BX.trans {B R:Nat} {a b c:World} (h:BX B R a b) (k:BX B R b c):BX B R a c:=⟨fun Z h1 h2=>(h.1 Z h1 h2).trans (k.1 Z h1 h2),fun i hi hr=>(k.2 i hi hr).trans (h.2 i hi hr)⟩
theorem BX.of {B R:Nat} {a b:World} (h:Below B a b):BX B R a b:=⟨fun _ h1 _=>h.mono h1,fun i hi _=>h.block i hi⟩
theorem BX.set {B R:Nat} {a b:World} (h:BX B R a b) (j:Nat) (v:Value):BX B R a (b.setCell ⟨R,j,none⟩ v):=⟨fun Z h1 h2=>(h.1 Z h1 h2).setCell h2 _,fun i hi hr=>by rw[Below.heap_setCell _ _ _ _ hr];exact h.2 i hi hr⟩
theorem BX.size {B R:Nat} {a b:World} (h:BX B R a b):a.heap.size≤b.heap.size:=(h.1 0 (Nat.zero_le _) (Nat.zero_le _)).size
structure QR (B R:Nat) (w:World) (s:ByteArray) (v:Value) (st:Ns):Prop where
 blk:w.heap[R]?=some (.cells #[.string s,.int .i64 st.pos,.int .i64 st.e,.int .i64 st.bad,v] 92 (0,0))
 BR:B≤w.heap.size
 nd:w.ownsRow B 42 3 v st.l.length (flat3 st.l)
 le:st.pos≤s.size
 ll:st.l.length≤st.pos
theorem QR.kt {ts:List TypeId} {B R:Nat} {w w':World} {s:ByteArray} {v:Value} {st:Ns} (h:QR B R w s v st) (hs:w.heap.size≤w'.heap.size) (hk:KT ts w w') (h56:¬ 92∈ts) (h45:¬ 42∈ts):QR B R w' s v st:=
 ⟨hk _ _ _ _ h.blk h56,Nat.le_trans h.BR hs,own_kt h.nd hk h45,h.le,h.ll⟩
theorem QR.new {B R:Nat} {w w':World} {s:ByteArray} {v:Value} {st:Ns} (h:QR B R w s v st) (hb:Below w.heap.size w w'):QR B R w' s v st:=h.kt hb.size (KT.new [] hb) (by simp) (by simp)
theorem QR.lt {B R:Nat} {w:World} {s:ByteArray} {v:Value} {st:Ns} (h:QR B R w s v st):R<w.heap.size:=lt_of_block h.blk
theorem QR.row {B R:Nat} {w:World} {s:ByteArray} {v:Value} {st:Ns} (h:QR B R w s v st):v.ownBlock≠some R:=fun e=>by
 obtain ⟨c,fz,hc⟩:=own_kind h.nd R e;rw[h.blk]at hc;injection hc with hc
 injection hc with _ hc _
 exact absurd hc (by decide)
def QP (B R:Nat) (w:World) (s:ByteArray) (v:Value) (st:Ns) (w':World):Prop:=QR B R w' s v st∧BX B R w w'∧KT [92] w w'
theorem QR.same {B R:Nat} {w:World} {s:ByteArray} {v:Value} {st:Ns} (h:QR B R w s v st):QP B R w s v st w:=⟨h,BX.refl _ _ _,KT.refl _ _⟩
theorem QP.trans {B R:Nat} {w w1 w2:World} {s:ByteArray} {v:Value} {st1 st2:Ns} (h:QP B R w s v st1 w1) (k:QP B R w1 s v st2 w2):QP B R w s v st2 w2:=⟨k.1,h.2.1.trans k.2.1,h.2.2.trans k.2.2⟩
theorem QP.after {B R:Nat} {w w1 w2:World} {s:ByteArray} {v:Value} {st:Ns} (hb:Below w.heap.size w w1) (hB:B≤w.heap.size) (k:QP B R w1 s v st w2):QP B R w s v st w2:=⟨k.1,(BX.of (hb.mono hB)).trans k.2.1,(KT.new _ hb).trans k.2.2⟩
theorem QR.Bw {B R:Nat} {w:World} {s:ByteArray} {v:Value} {st:Ns} (h:QR B R w s v st):B≤w.heap.size:=h.BR
theorem QR.setPos {B R:Nat} {w:World} {s:ByteArray} {v:Value} {st:Ns} (h:QR B R w s v st) (n:Nat) (hn:n≤s.size) (hl:st.l.length≤n):QP B R w s v ⟨n,st.e,st.bad,st.l⟩ (w.setCell ⟨R,1,none⟩ (.int .i64 n)):=
 ⟨⟨block_set h.blk 1 _,by rw[size_set];exact h.BR,ownsRow_setCell_other h.nd h.row _,hn,hl⟩,(BX.refl B R w).set _ _,(KT.refl [92] w).set h.blk (by decide) _ _⟩
theorem rfail_any {B R:Nat} {w:World} {s:ByteArray} {v:Value} {st:Ns} (h:QR B R w s v st) (er:Int) (p:Nat) :
  Calls Tryz.prog 57 #[.pointer (some ⟨R,0,none⟩),.int .i64 er,.int .i64 p] w fun e w'=>(∃r,e=.returned r)∧QP B R w s v (st.fail er p) w':=by
 have hR:=h.blk;have c2:w.cell? ⟨R,2,none⟩=some (.int .i64 st.e):=by simp[World.cell?,hR]
 by_cases he:st.e=0
 ·have c3:w.cell? ⟨R,3,none⟩=some (.int .i64 st.bad):=by simp[World.cell?,hR]
  have f2:w.frozen? ⟨R,2,none⟩=false:=by simp[World.frozen?,hR]
  have f3:w.frozen? ⟨R,3,none⟩=false:=by simp[World.frozen?,hR]
  have e1:st.fail er p=⟨st.pos,er,p,st.l⟩:=by unfold Ns.fail;rw[if_pos he]
  rw[e1];rw[he]at c2;go_enter Tryz.func57,Tryz.ntmps57;go_wp2;go_end0;have b2:=block_set hR 2 (.int .i64 er);have b3:=block_set b2 3 (.int .i64 (p:Nat));have o2:=ownsRow_setCell_other h.nd (a:=⟨R,2,none⟩) h.row (.int .i64 er);refine ⟨⟨_,rfl⟩,⟨b3,by rw[size_set,size_set];exact h.BR,ownsRow_setCell_other o2 h.row _,h.le,h.ll⟩,?_,?_⟩
  ·exact ((BX.refl B R w).set _ _).set _ _
  ·exact ((KT.refl [92] w).set hR (by decide) _ _).set b2 (by decide) _ _
 ·rw[fail_dead he];have hb:(st.e == 0)=false:=beq_eq_false_iff_ne.2 he;go_enter Tryz.func57,Tryz.ntmps57;go_wp2;go_end0;exact ⟨⟨_,rfl⟩,h.same⟩
theorem nextN_live (s:Bs) (m:Nat) (st:Ns) (he:st.e=0):nextN s m st=match cutF (s.drop st.pos) m with
 | .wait=>(st.fail 2 s.length,⟨#[]⟩)
 | .bad e=>(st.fail e st.pos,⟨#[]⟩)
 | .ok t _ n=>(⟨st.pos+n,st.e,st.bad,st.l⟩,⟨t.toArray⟩):=by unfold nextN;rw[if_neg (by rw[he];simp)];try rfl
theorem ba_of {a:ByteArray} {l:Bs} (h:a.data.toList=l):a=⟨l.toArray⟩:=by subst h;rfl
theorem num8_at (L:Bs) (j:Nat) (h:j<8) (hl:8≤L.length):num8 ((L.take 8).drop j)=(L[j]'(by omega)).toNat+256*num8 ((L.take 8).drop (j+1)):=by
 have hj:j<(L.take 8).length:=by rw[List.length_take];omega
 rw[List.drop_eq_getElem_cons hj,num8,List.getElem_take]
theorem whole_eq (n:Nat):(8+n+7) / 8*8=wholeOf n:=by unfold wholeOf padLen;omega
def Cl (m V:Nat):Prop:=m<562949953421312∧(m=V∨(1099511627776<m∧1099511627776<V))
theorem Cl.step {m V:Nat} (h:Cl m V) (b:Nat) (hb:b<256):Cl (256*(if 1099511627776<m then 1099511627776 else m)+b) (b+256*V):=by
 unfold Cl at *
 split <;> omega
theorem getD_at (D:ByteArray) (L:Bs) (h:D.data.toList=L) (j:Nat) (hj:j<D.size) (hj2:j<L.length):D[j].toNat=L[j].toNat:=by
 subst h;rfl
theorem rnext_any {B R:Nat} {w:World} {s:ByteArray} {v:Value} {st:Ns} (h:QR B R w s v st) (most:Nat) (hm:most≤1000) (hs:s.size≤50000000) :
  Calls Tryz.prog 56 #[.pointer (some ⟨R,0,none⟩),.int .i64 most] w fun e w'=>e=.returned (.string (nextN s.data.toList most st).2)∧QP B R w s v (nextN s.data.toList most st).1 w':=by
 have c2:w.cell? ⟨R,2,none⟩=some (.int .i64 st.e):=by simp[World.cell?,h.blk]
 by_cases he:st.e=0
 ·obtain ⟨RES,hRES⟩:∃RES,nextN s.data.toList most st=RES:=⟨_,rfl⟩;rw[hRES];rw[nextN_live _ _ _ he]at hRES;have hle:=h.le;obtain ⟨L,hL⟩:∃L,s.data.toList.drop st.pos=L:=⟨_,rfl⟩;rw[hL]at hRES;have hLl:L.length=s.size - st.pos:=by rw[← hL];simp
  have hsl:s.data.toList.length=s.size:=by simp
  rw[hsl]at hRES;clear hsl;obtain ⟨D,hD⟩:∃D,s.extract st.pos s.size=D:=⟨_,rfl⟩;have hDL:Hid (D.data.toList=L):=by
   show _=_;rw[← hD,← hL,Lib.extract_data,List.take_of_length_le (by simp)]
  have hDs:D.size=L.length:=by rw[← hDL.out];simp
  have hllp:=h.ll;have hBw:=h.Bw;have H:=hide h;rw[he]at c2;have c0:w.cell? ⟨R,0,none⟩=some (.string s):=by simp[World.cell?,h.blk]
  have c1:w.cell? ⟨R,1,none⟩=some (.int .i64 st.pos):=by simp[World.cell?,h.blk]
  have hpz:(st.pos:Int)≤s.size:=by omega
  have HR:=hide hRES;clear hL hRES h;go_enter Tryz.func56,Tryz.ntmps56;go_wp2
  go_quiet (fail)
  have H1:=hide (H.out.new (drewNB w nq));have hb1:=hide (drewNB w nq);clear H c0 c1 c2 hD;generalize w.drewN nq=W at H1 hb1 ⊢;have c0:W.cell? ⟨R,0,none⟩=some (.string s):=by simp[World.cell?,H1.out.blk]
  have c1:W.cell? ⟨R,1,none⟩=some (.int .i64 st.pos):=by simp[World.cell?,H1.out.blk]
  by_cases h8:L.length<8
  ·have hc:cutF L most=.wait:=by unfold cutF;rw[if_pos h8]
   have HR':=HR.out;rw[hc]at HR';subst HR';have h8z:(D.size:Int)<8:=by omega
   have cF:=hide (rfail_any H1.out 2 s.size);clear HR hc
   go_wp2_with fail
   refine cF.out.mono ?_;rintro e w2 ⟨⟨r,rfl⟩,hq⟩;go_wp2;go_ret;exact ⟨rfl,QP.after hb1.out hBw hq⟩
  ·have h8z:¬ (D.size:Int)<8:=by omega
   have HDB:Hid (∀j (h1:j<D.size) (h2:j<L.length),D[j].toNat=L[j].toNat):=fun j h1 h2=>getD_at D L hDL.out j h1 h2
   obtain ⟨V,hV⟩:∃V,num8 (L.take 8)=V:=⟨_,rfl⟩;have HC0:Hid (Cl 0 (num8 ((L.take 8).drop 8))):=by
    have:(L.take 8).drop 8=[]:=List.drop_eq_nil_of_le (by rw[List.length_take];omega);rw[this];exact hide ⟨by omega,.inl rfl⟩
   go_wp2
   go_loop [6,7] (fun n i=>∃(j m:Nat) (z:Int),j≤8∧z=(j:Int) - 1∧i=.int .i64 z∧n=.int .u64 (m:Nat)∧Hid (Cl m (num8 ((L.take 8).drop j)))) (fun _ i=>(intOf i+1).toNat)
   case atStart=>exact ⟨8,0,7,by omega,rfl,rfl,rfl,HC0⟩
   case round=>
    obtain ⟨j,m,z,hj,hz,rfl,rfl,hC⟩:=hrel;cases j with
    | succ j=>
     obtain rfl:z=(j:Int):=by omega
     clear hz HC0;have hjD:j<D.size:=by omega
     have hjL:j<L.length:=by omega
     have hC':=hC.out.step L[j].toNat L[j].toNat_lt;rw[← num8_at L j (by omega) (by omega),← HDB.out j hjD hjL]at hC';have HC:=hide hC';have hb256:=D[j].toNat_lt;have hm49:m<562949953421312:=hC.out.1;clear hC' hC
     by_cases hbig:1099511627776<m
     ·rw[if_pos hbig]at HC;have hbz:(1099511627776:Int)<m:=by omega
      go_wp2
      go_round
      case rel=>exact ⟨j,_,_,by omega,rfl,by go_num,by go_num,HC⟩
      case measure=>simp[intOf] <;> omega
     ·rw[if_neg hbig]at HC;have hbz:¬ (1099511627776:Int)<m:=by omega
      go_wp2
      go_round
      case rel=>exact ⟨j,_,_,by omega,rfl,by go_num,by go_num,HC⟩
      case measure=>simp[intOf] <;> omega
    | zero=>
     obtain rfl:z=-1:=by omega
     clear hz HC0;rw[List.drop_zero,hV]at hC;have hm49:=hC.out.1;have hor:=hC.out.2;clear hC
     by_cases hbig:most<V
     ·have hc:cutF L most=.bad 3:=by unfold cutF;rw[if_neg h8,if_pos (by rw[hV];exact hbig)]
      have HR':=HR.out;rw[hc]at HR';subst HR';have hbz:(most:Int)<m:=by omega
      have cF:=hide (rfail_any H1.out 3 st.pos);clear HR hc hor
      go_wp2_with fail
      refine cF.out.mono ?_;rintro e w2 ⟨⟨r,rfl⟩,hq⟩;go_wp2;go_ret;exact ⟨rfl,QP.after hb1.out hBw hq⟩
     ·obtain rfl:m=V:=by omega
      have hbz:¬ (most:Int)<m:=by omega
      obtain ⟨F,hF⟩:∃F,wholeOf m=F:=⟨_,rfl⟩;have hFz:((8+(m:Int)+7) / 8*8)=(F:Int):=by rw[← hF,← whole_eq];omega
      have hFm:8+m≤F:=by rw[← hF];exact wholeOf_ge m
      have hF2:F≤8+m+7:=by rw[← hF,← whole_eq];omega
      clear hor
      by_cases hshort:L.length<F
      ·have hc:cutF L most=.wait:=by unfold cutF;rw[if_neg h8,if_neg (by rw[hV];exact hbig),if_pos (by rw[hV,hF];exact hshort)]
       have HR':=HR.out;rw[hc]at HR';subst HR';have hsz:(D.size:Int)<F:=by omega
       have cF:=hide (rfail_any H1.out 2 s.size);clear HR hc hF
       go_wp2_with fail
       refine cF.out.mono ?_;rintro e w2 ⟨⟨r,rfl⟩,hq⟩;go_wp2;go_ret;exact ⟨rfl,QP.after hb1.out hBw hq⟩
      ·have hFL:F≤D.size:=by omega
       have hsz:¬ (D.size:Int)<F:=by omega
       have hcut:∀Z:Bool,((L.take F).drop (8+m)).all (· == 0)=Z→cutF L most=if Z=true then .ok ((L.drop 8).take m) (L.drop F) F else .bad 4:=by
        intro Z hZ;unfold cutF;rw[if_neg h8,if_neg (by rw[hV];exact hbig),if_neg (by rw[hV,hF];exact hshort),hV,hF,hZ]
       have HCUT:=hide hcut;have hext:D.extract 8 (8+m)=⟨((L.drop 8).take m).toArray⟩:=ba_of (by rw[Lib.extract_data,hDL.out];simp);have HEXT:=hide hext;have hmz:(8:Int)+m≤D.size:=by omega
       have f1:W.frozen? ⟨R,1,none⟩=false:=by simp[World.frozen?,H1.out.blk]
       have HA0:Hid (((L.take (8+m)).drop (8+m)).all (· == 0)=true):=by
        have:(L.take (8+m)).drop (8+m)=[]:=List.drop_eq_nil_of_le (by rw[List.length_take];omega);show _=_;rw[this];rfl
       clear hcut hext hF hV hbig hDL;go_wp2
       go_loop [10] (fun i=>∃k:Nat,8+m≤k∧k≤F∧i=.int .i64 (k:Nat)∧Hid (((L.take k).drop (8+m)).all (· == 0)=true)) (fun i=>F - (intOf i).toNat)
       case atStart=>exact ⟨8+m,by omega,hFm,by go_num,HA0⟩
       case round=>
        obtain ⟨k,hk1,hk2,rfl,hA⟩:=hrel
        by_cases hlt:k<F
        ·have hkD:k<D.size:=by omega
         have hkL:k<L.length:=by omega
         have hkz:(k:Int)<F:=by omega
         have hbyte:=HDB.out k hkD hkL
         by_cases h0:L[k].toNat=0
         ·rw[h0]at hbyte;have hb0:((D[k].toNat:Int) == 0)=true:=by rw[hbyte];rfl
          have hA':Hid (((L.take (k+1)).drop (8+m)).all (· == 0)=true):=by
           have e:L.take (k+1)=L.take k++[L[k]]:=List.take_succ_eq_append_getElem hkL;have e0:L[k]=0:=UInt8.toNat_inj.1 h0;show _=_;rw[e,List.drop_append_of_le_length (by rw[List.length_take];omega),List.all_append,hA.out,e0];rfl
          clear h0 hbyte hA;go_wp2
          go_round
          case rel=>exact ⟨k+1,by omega,by omega,by go_num,hA'⟩
          case measure=>simp[intOf] <;> omega
         ·have hb0:((D[k].toNat:Int) == 0)=false:=beq_eq_false_iff_ne.2 (by omega);have hf:((L.take F).drop (8+m)).all (· == 0)=false:=by
           rw[Bool.eq_false_iff];intro e;have hin:L[k]∈(L.take F).drop (8+m):=by
            rw[List.mem_iff_getElem];exact ⟨k - (8+m),by rw[List.length_drop,List.length_take];omega,by rw[List.getElem_drop,List.getElem_take];congr 1;omega⟩
           have:=List.all_eq_true.1 e _ hin;have e0:L[k]=0:=by simpa using this
           rw[e0]at h0;exact h0 rfl
          have HR':=HR.out;rw[HCUT.out false hf]at HR';simp only[Bool.false_eq_true,if_false]at HR';subst HR';have cF:=hide (rfail_any H1.out 4 st.pos);clear h0 hbyte hA hf HR HCUT
          go_wp2_with fail
          refine cF.out.mono ?_;rintro e w2 ⟨⟨r,rfl⟩,hq⟩;go_wp2;go_ret;exact ⟨rfl,QP.after hb1.out hBw hq⟩
        ·obtain rfl:k=F:=by omega
         have HR':=HR.out;rw[HCUT.out true hA.out]at HR';simp only[if_true]at HR';subst HR';have hkz:¬ (k:Int)<k:=by omega
         have hq:=hide (H1.out.setPos (st.pos+k) (by omega) (by omega));clear HR HCUT hA hlt;go_wp2;go_ret;rw[HEXT.out];refine ⟨rfl,QP.after hb1.out hBw ?_⟩;have:=hq.out;rw[show ((st.pos+k:Nat):Int)=(st.pos:Int)+k by omega,he]at this;exact this
 ·rw[next_dead he];have hb:(st.e == 0)=false:=beq_eq_false_iff_ne.2 he;go_enter Tryz.func56,Tryz.ntmps56;go_wp2;go_ret;exact ⟨rfl,h.same⟩
theorem wordN_yes {s:Bs} {may:List ByteArray} {st:Ns} (h:hasB (nextN s 8 st).2 may=true) (he:(nextN s 8 st).1.e=0):wordN s may st=nextN s 8 st:=by unfold wordN;rw[if_pos ⟨h,he⟩]
theorem wordN_no {s:Bs} {may:List ByteArray} {st:Ns} (h:¬ (hasB (nextN s 8 st).2 may=true∧(nextN s 8 st).1.e=0)):wordN s may st=((nextN s 8 st).1.fail 5 st.pos,⟨#[]⟩):=by unfold wordN;rw[if_neg h]
theorem rword_any {B R:Nat} {w:World} {s:ByteArray} {v:Value} {st:Ns} (h:QR B R w s v st) (b:Nat) (may:List ByteArray) (hb:w.heap[b]?=some (.cells (may.map Value.string).toArray 9 (0,0))) (hml:may.length≤1000) (hs:s.size≤50000000) :
  Calls Tryz.prog 55 #[.pointer (some ⟨R,0,none⟩),.slice (some ⟨b,0,none⟩) may.length may.length] w fun e w'=>e=.returned (.string (wordN s.data.toList may st).2)∧QP B R w s v (wordN s.data.toList may st).1 w':=by
 have c1:w.cell? ⟨R,1,none⟩=some (.int .i64 st.pos):=by simp[World.cell?,h.blk]
 have cN:=hide (rnext_any h 8 (by omega) hs);obtain ⟨W,hW⟩:∃W,wordN s.data.toList may st=W:=⟨_,rfl⟩;rw[hW];have Hy:Hid (hasB (nextN s.data.toList 8 st).2 may=true→(nextN s.data.toList 8 st).1.e=0→W=nextN s.data.toList 8 st):=fun a c=>by rw[← hW];exact wordN_yes a c
 have Hn:Hid (¬ (hasB (nextN s.data.toList 8 st).2 may=true∧(nextN s.data.toList 8 st).1.e=0)→W=((nextN s.data.toList 8 st).1.fail 5 st.pos,⟨#[]⟩)):=fun a=>by rw[← hW];exact wordN_no a
 generalize nextN s.data.toList 8 st=NX at cN Hy Hn;obtain ⟨st1,t⟩:=NX;simp only at cN Hy Hn;have hB:=hide hb;clear h hW hb;go_enter Tryz.func55,Tryz.ntmps55
 go_wp2_with fail
 refine cN.out.mono ?_;rintro e w1 ⟨rfl,hq⟩;have Q1:=hide hq;have c2:w1.cell? ⟨R,2,none⟩=some (.int .i64 st1.e):=by simp[World.cell?,hq.1.blk]
 have hb1:=hq.2.2 _ _ _ _ hB.out (by decide);have hB1:=hide hb1;clear cN c1 hq hb1 hB;go_wp2
 go_loop [8,17] (fun _ i=>∃k:Nat,k≤may.length∧i=.int .i64 k∧Hid (∀j (hj:j<may.length),j<k→¬ (t=may[j]∧st1.e=0))) (fun _ i=>may.length - (intOf i).toNat)
 case atStart=>exact ⟨0,by omega,rfl,fun j _ hj=>by omega⟩
 case round=>
  obtain ⟨k,hk,rfl,hno⟩:=hrel
  by_cases hlt:k<may.length
  ·have hz:(k:Int)<may.length:=by omega
   have cb:w1.cell? ⟨b,k,none⟩=some (.string may[k]):=by simp[World.cell?,hB1.out,hlt]
   by_cases e1:t=may[k]
   ·have hb:(t.toList == may[k].toList)=true:=by rw[e1];simp
    by_cases e0:st1.e=0
    ·have hWe:=Hy.out ((hasB_iff _ _).2 (by rw[e1];exact List.getElem_mem _)) e0;subst hWe;rw[e0]at c2;clear e1 Hy Hn hno;go_wp2;go_ret;exact ⟨rfl,Q1.out⟩
    ·have h0:(st1.e == 0)=false:=beq_eq_false_iff_ne.2 e0;have hno':Hid (∀j (hj:j<may.length),j<k+1→¬ (t=may[j]∧st1.e=0)):=fun j hj hjk hh=>e0 hh.2
     clear e1 e0;go_wp2
     go_round
     case rel=>exact ⟨k+1,by omega,by go_num,hno'⟩
     case measure=>simp[intOf];omega
   ·have hb:=eqB_false e1;have hno':Hid (∀j (hj:j<may.length),j<k+1→¬ (t=may[j]∧st1.e=0)):=fun j hj hjk hh=>by
     by_cases e:j=k
     ·subst e;exact e1 hh.1
     ·exact hno.out j hj (by omega) hh
    clear e1;go_wp2
    go_round
    case rel=>exact ⟨k+1,by omega,by go_num,hno'⟩
    case measure=>simp[intOf];omega
  ·obtain rfl:k=may.length:=by omega
   have hWe:=Hn.out (fun hh=>by
    obtain ⟨j,hj,e⟩:=List.getElem_of_mem ((hasB_iff _ _).1 hh.1);exact hno.out j hj hj ⟨e.symm,hh.2⟩)
   subst hWe;have cF:=hide (rfail_any Q1.out.1 5 st.pos);clear Hy Hn hno hlt
   go_wp2_with fail
   refine cF.out.mono ?_;rintro e w2 ⟨⟨r,rfl⟩,hq⟩;go_wp2;go_ret;exact ⟨rfl,Q1.out.trans hq⟩
theorem rword_new {B R:Nat} {w:World} {s:ByteArray} {v:Value} {st:Ns} (h:QR B R w s v st) (may:List ByteArray) (cs:Array Value) (hcs:cs=(may.map Value.string).toArray) (m:Nat) (hm:m=may.length) (b:Nat) (hb:b=w.heap.size) (hml:may.length≤1000) (hs:s.size≤50000000) :
  Calls Tryz.prog 55 #[.pointer (some ⟨R,0,none⟩),.slice (some ⟨b,0,none⟩) m m] (w.alloc (.cells cs 9)) fun e w'=>e=.returned (.string (wordN s.data.toList may st).2)∧QP B R w s v (wordN s.data.toList may st).1 w':=by
 subst hcs;subst hm;subst hb;have hb0:=(Below.refl _ w).alloc (Nat.le_refl _) (.cells (may.map Value.string).toArray 9);refine (rword_any (h.new hb0) w.heap.size may (block_new w _) hml hs).mono ?_;rintro e w' ⟨he,hq⟩;exact ⟨he,QP.after hb0 h.Bw hq⟩
theorem rmust_any {B R:Nat} {w:World} {s:ByteArray} {v:Value} {st:Ns} (h:QR B R w s v st) (x:ByteArray) (hs:s.size≤50000000) :
  Calls Tryz.prog 54 #[.pointer (some ⟨R,0,none⟩),.string x] w fun e w'=>(∃r,e=.returned r)∧QP B R w s v (mustN s.data.toList x st) w':=by
 have cW:=hide (rword_new h [x] #[.string x] rfl 1 rfl w.heap.size rfl (by simp) hs);have e0:mustN s.data.toList x st=(wordN s.data.toList [x] st).1:=rfl;rw[e0];clear h e0;generalize wordN s.data.toList [x] st=WX at cW ⊢;go_enter Tryz.func54,Tryz.ntmps54
 go_wp2_with fail
 refine cW.out.mono ?_;rintro e w1 ⟨rfl,hq⟩;go_wp2;go_end0;exact ⟨⟨_,rfl⟩,hq⟩
theorem fail_pos (st:Ns) (e:Int) (p:Nat):(st.fail e p).pos=st.pos:=(fail_l st e p).2
theorem fail_live {st:Ns} {e:Int} {p:Nat} (hne:e≠0):(st.fail e p).e≠0:=by unfold Ns.fail;split;exact hne;assumption
theorem failIf_live {st:Ns} {c:Bool} {e:Int} {p:Nat} (h:(st.failIf c e p).e=0) (hne:e≠0):st.e=0∧c=false:=by
 unfold Ns.failIf at h;cases c with
 | true=>exact absurd h (fail_live hne)
 | false=>exact ⟨h,rfl⟩
theorem next_size (s:Bs) (m:Nat) (st:Ns):(nextN s m st).2.size≤m:=by
 unfold nextN
 split
 ·exact Nat.zero_le _
 ·split
  ·exact Nat.zero_le _
  ·exact Nat.zero_le _
  ·rename_i hc
   have:=(cutF_len hc).2.2.2;simpa[ByteArray.size] using this
theorem next_mono (s:Bs) (m:Nat) (st:Ns):st.pos≤(nextN s m st).1.pos:=by
 unfold nextN
 split
 ·exact Nat.le_refl _
 ·split
  ·rw[fail_pos];exact Nat.le_refl _
  ·rw[fail_pos];exact Nat.le_refl _
  ·exact Nat.le_add_right _ _
theorem next_grow {s:Bs} {m:Nat} {st:Ns} (h:(nextN s m st).1.e=0):st.e=0∧st.pos+8+(nextN s m st).2.size≤(nextN s m st).1.pos:=by
 unfold nextN at h ⊢
 split at h
 ·rename_i he;exact absurd h he
 ·rename_i he
  have he:st.e=0:=by simpa using he
  rw[if_neg (by simp[he])];refine ⟨he,?_⟩
  split at h
  ·exact absurd h (fail_live (by decide))
  ·rename_i hc;exact absurd h (fail_live (cut_bad hc))
  ·rename_i hc
   have:=(cutF_len hc).2.2.1;simp only[ByteArray.size];simp;omega
theorem word_mono (s:Bs) (may:List ByteArray) (st:Ns):st.pos≤(wordN s may st).1.pos:=by
 unfold wordN
 split
 ·exact next_mono _ _ _
 ·rw[fail_pos];exact next_mono _ _ _
theorem word_grow {s:Bs} {may:List ByteArray} {st:Ns} (h:(wordN s may st).1.e=0):st.e=0∧st.pos+8≤(wordN s may st).1.pos:=by
 unfold wordN at h ⊢
 split at h
 ·rename_i hc
  rw[if_pos hc];have:=next_grow h;exact ⟨this.1,by omega⟩
 ·exact absurd h (fail_live (by decide))
theorem word_some {s:Bs} {may:List ByteArray} {st:Ns} (h:(wordN s may st).2≠⟨#[]⟩):(wordN s may st).1.e=0:=by
 unfold wordN at h ⊢
 split at h
 ·rename_i hc;rw[if_pos hc];exact hc.2
 ·exact absurd rfl h
theorem must_mono (s:Bs) (x:ByteArray) (st:Ns):st.pos≤(mustN s x st).pos:=word_mono _ _ _
theorem must_grow {s:Bs} {x:ByteArray} {st:Ns} (h:(mustN s x st).e=0):st.e=0∧st.pos+8≤(mustN s x st).pos:=word_grow h
theorem head_grow {s:Bs} {d:Nat} {st:Ns} (h:(headN s d st).e=0):st.e=0∧st.pos+16≤(headN s d st).pos:=by
 unfold headN at h ⊢;obtain ⟨h1,h2⟩:=must_grow h;obtain ⟨h3,_⟩:=failIf_live h1 (by decide);obtain ⟨h4,_⟩:=failIf_live h3 (by decide);obtain ⟨h5,h6⟩:=must_grow h4;rw[(failIf_l _ _ _ _).2,(failIf_l _ _ _ _).2]at h2;exact ⟨h5,by omega⟩
def QQ (B R:Nat) (w:World) (s:ByteArray) (st:Ns) (w':World):Prop:=(∃v,QR B R w' s v st)∧BX B R w w'∧KT [92,42] w w'
theorem QP.qq {B R:Nat} {w w':World} {s:ByteArray} {v:Value} {st:Ns} (h:QP B R w s v st w'):QQ B R w s st w':=⟨⟨v,h.1⟩,h.2.1,h.2.2.mono (by decide)⟩
theorem QQ.trans {B R:Nat} {w w1 w2:World} {s:ByteArray} {st1 st2:Ns} (h:QQ B R w s st1 w1) (k:QQ B R w1 s st2 w2):QQ B R w s st2 w2:=⟨k.1,h.2.1.trans k.2.1,h.2.2.trans k.2.2⟩
theorem QP.q {B R:Nat} {w w1 w2:World} {s:ByteArray} {v:Value} {st1 st2:Ns} (h:QP B R w s v st1 w1) (k:QQ B R w1 s st2 w2):QQ B R w s st2 w2:=h.qq.trans k
theorem QR.push {B R:Nat} {w w3:World} {s:ByteArray} {v v':Value} {st:Ns} (h:QR B R w s v st) (n:Nd) (hown:w3.ownsRow B 42 3 v' (st.l.length+1) (flat3 st.l++[.string n.path,.int .i64 n.kind,.string n.data])) (hk:KT [42] w w3) (hb:Below B w w3) (hll:st.l.length+1≤st.pos) :
  QR B R (w3.setCell ⟨R,4,none⟩ v') s v' (st.push n)∧BX B R w (w3.setCell ⟨R,4,none⟩ v')∧KT [92,42] w (w3.setCell ⟨R,4,none⟩ v'):=by
 have hR3:=hk _ _ _ _ h.blk (by decide);have hne:v'.ownBlock≠some R:=fun e=>by
  obtain ⟨c,fz,hc⟩:=own_kind hown R e;rw[hR3]at hc;injection hc with hc
  injection hc with _ hc _
  exact absurd hc (by decide)
 refine ⟨⟨block_set hR3 4 v',by rw[size_set];exact Nat.le_trans h.BR hb.size,?_,h.le,?_⟩,(BX.of hb).set _ _,KT.set (hk.mono (by decide)) hR3 (by decide) 4 v'⟩
 ·have:=ownsRow_setCell_other hown hne (a:=⟨R,4,none⟩) v';unfold Ns.push;rw[flat3_append,List.length_append];exact this
 ·simp only[Ns.push,List.length_append,List.length_singleton];exact hll
def DirC (s:ByteArray) (f:Nat):Prop:=∀(B R:Nat) (w:World) (v:Value) (st:Ns) (path:ByteArray) (deep:Nat),QR B R w s v st→st.e=0→s.size - st.pos<f→path.size≤st.pos→deep≤st.pos →
 Calls Tryz.prog 116 #[.pointer (some ⟨R,0,none⟩),.string path,.int .i64 deep] w fun e w'=>(∃r,e=.returned r)∧QQ B R w s (dirN s.data.toList f path deep ⟨#[]⟩ st) w'
theorem list_eq {t x:ByteArray} (h:t=x) (l:Bs) (hl:x.toList=l):(t.toList == l)=true:=by rw[h,hl];simp
theorem list_ne {t x:ByteArray} (h:¬ t=x) (l:Bs) (hl:x.toList=l):(t.toList == l)=false:=by rw[← hl];exact eqB_false h
theorem head_ok {S:Bs} {deep:Nat} {st:Ns} (h:(headN S deep st).e=0):deep≤5∧¬ st.l.length=30∧headN S deep st=mustN S wType (mustN S wOpen st):=by
 unfold headN at h;obtain ⟨h1,_⟩:=must_grow h;obtain ⟨h3,h4⟩:=failIf_live h1 (by decide);obtain ⟨_,h5⟩:=failIf_live h3 (by decide);have a5:¬ 5<deep:=of_decide_eq_false h5;have a30:¬ st.l.length=30:=of_decide_eq_false h4;refine ⟨by omega,a30,?_⟩;unfold headN;rw[decide_eq_false a5,decide_eq_false a30];rfl
theorem rnode_file {B R:Nat} {w:World} {s:ByteArray} {v:Value} {st:Ns} (h:QR B R w s v st) (hs:s.size≤50000000) (path:ByteArray) (deep:Nat)
  (hw:(wordN s.data.toList [wFile,wLink,wDir] (headN s.data.toList deep st)).2=wFile) :
  Calls Tryz.prog 87 #[.pointer (some ⟨R,0,none⟩),.string path,.int .i64 deep] w fun e w'=>(∃r,e=.returned r)∧QQ B R w s (fileN s.data.toList path (wordN s.data.toList [wFile,wLink,wDir] (headN s.data.toList deep st)).1) w':=by
 obtain ⟨i45,hi,hz0,hz1,hz2⟩:=info_parts Tryz.info42;have he3:=word_some (may:=[wFile,wLink,wDir]) (st:=headN s.data.toList deep st) (by rw[hw];decide);obtain ⟨he2,hg3⟩:=word_grow he3;obtain ⟨_,hg2⟩:=head_grow he2;obtain ⟨h5,h30,hhd⟩:=head_ok he2;have hl3:=word_l s.data.toList [wFile,wLink,wDir] (headN s.data.toList deep st);rw[hhd]at hw he3 hg3 hg2 hl3 ⊢;rw[must_l,must_l]at hl3;obtain ⟨a,cap,rfl,hcap⟩:=own_slice h.nd;have hllp:=h.ll;have cM1:=hide (rmust_any h wOpen hs);have c1:w.cell? ⟨R,1,none⟩=some (.int .i64 st.pos):=by simp[World.cell?,h.blk]
 have h5z:¬ (5:Int)<deep:=by omega
 have h30z:¬ (st.l.length:Int)=30:=by omega
 have h30b:((st.l.length:Int) == 30)=false:=beq_eq_false_iff_ne.2 h30z;generalize e1:mustN s.data.toList wOpen st=st1 at *;generalize e2:mustN s.data.toList wType st1=st2 at *;generalize e3:wordN s.data.toList [wFile,wLink,wDir] st2=WX at *;obtain ⟨st3,t⟩:=WX;simp only at hw he3 hg3 hl3 ⊢;have E2:=hide e2;have E3:=hide e3;unfold fileN;have hm4:=word_mono s.data.toList [wExec,wData] st3;have hl4:=word_l s.data.toList [wExec,wData] st3;generalize e4:wordN s.data.toList [wExec,wData] st3=WY at *;obtain ⟨st4,t4⟩:=WY;simp only at hm4 hl4 ⊢;have E4:=hide e4;have tb:=list_eq hw _ file_list;rw[hl3]at hl4;clear h hw e1 e2 e3 e4 hhd he2 h30 hl3
 by_cases hx:t4=wExec
 ·have tb4:=list_eq hx _ exec_list;rw[if_pos hx];unfold dataN;have hm5:=must_mono s.data.toList wNone st4;have hl5:=must_l s.data.toList wNone st4;generalize e5:mustN s.data.toList wNone st4=st5 at *;rw[hl4]at hl5;have E5:=hide e5;have hm6:=must_mono s.data.toList wData st5;have hl6:=must_l s.data.toList wData st5;generalize e6:mustN s.data.toList wData st5=st6 at *;rw[hl5]at hl6;have E6:=hide e6;clear hx e5 e6 hl4 hl5;have hm7:=next_mono s.data.toList 100 st6;have hl7:=next_l s.data.toList 100 st6;generalize e7:nextN s.data.toList 100 st6=NX at *;obtain ⟨st7,d⟩:=NX;simp only at hm7 hl7 ⊢;rw[hl6]at hl7;have E7:=hide e7;have hL7:=congrArg List.length hl7;have hP7:st7.l.length+1≤st7.pos:=by omega
  clear e7 hl6 hl7 hL7;go_enter Tryz.func87,Tryz.ntmps87
  go_wp2_with fail
  refine cM1.out.mono ?_;rintro e w1 ⟨⟨r,rfl⟩,hq1⟩;have Q1:=hide hq1;have c4:w1.cell? ⟨R,4,none⟩=some (.slice a st.l.length cap):=by simp[World.cell?,hq1.1.blk]
  have cM2:=hide (rmust_any hq1.1 wType hs);rw[E2.out]at cM2;clear cM1 c1 hq1
  go_wp2_with fail
  refine cM2.out.mono ?_;rintro e w2 ⟨⟨r2,rfl⟩,hq2⟩;have Q2:=hide (Q1.out.trans hq2);have cW:=hide (rword_new hq2.1 [wFile,wLink,wDir] #[.string ⟨#[102,105,108,101]⟩,.string ⟨#[108,105,110,107]⟩,.string ⟨#[100,105,114]⟩] rfl 3 rfl w2.heap.size rfl (by simp) hs);rw[E3.out]at cW;clear cM2 c4 hq2 Q1
  go_wp2_with fail
  refine cW.out.mono ?_;rintro e w3 ⟨rfl,hq3⟩;have Q3:=hide (Q2.out.trans hq3);have cX:=hide (rword_new hq3.1 [wExec,wData] #[.string ⟨#[101,120,101,99]⟩,.string ⟨#[100,97,116,97]⟩] rfl 2 rfl w3.heap.size rfl (by simp) hs);rw[E4.out]at cX;clear cW hq3 Q2
  go_wp2_with fail
  refine cX.out.mono ?_;rintro e w4 ⟨rfl,hq4⟩;have Q4:=hide (Q3.out.trans hq4);clear cX hq4 Q3;have cP:=hide (rmust_any Q4.out.1 wNone hs);rw[E5.out]at cP
  go_wp2_with fail
  refine cP.out.mono ?_;rintro e wP ⟨⟨rP,rfl⟩,hqP⟩;have QP1:=hide (Q4.out.trans hqP);have cR:=hide (rmust_any hqP.1 wData hs);rw[E6.out]at cR;clear cP hqP Q4
  go_wp2_with fail
  refine cR.out.mono ?_;rintro e wR ⟨⟨rR,rfl⟩,hqR⟩;have QR1:=hide (QP1.out.trans hqR);clear cR hqR QP1;have cN:=hide (rnext_any (QR1.out.1.new (drewB wR)) 100 (by omega) hs);rw[E7.out]at cN;have c4:wR.cell? ⟨R,4,none⟩=some (.slice a st.l.length cap):=by simp[World.cell?,QR1.out.1.blk]
  go_wp2
  go_region_law (first
   | (have _g:=cN;clear _g;go_simp;go_wp2_with (go_at_call 56;refine cN.out.mono ?_;rintro e w5 ⟨rfl,hq5⟩;have Q5:=hide (QP.after (drewB wR) QR1.out.1.Bw hq5);have O5:=hide hq5.1.nd;have c45:w5.cell? ⟨R,4,none⟩=some (.slice a st.l.length cap):=(by simp[World.cell?,hq5.1.blk]);have hrow5:=hide (fun e:some R=(Value.slice a st.l.length cap).ownBlock=>hq5.1.row e.symm);have hle5:=hq5.1.le;have hR5:=hq5.1.lt;have hB5:=hq5.1.Bw;clear hq5 cN))
   | (refine step_append_own rfl (.tmp 49) (.tmp 55) 25 rfl B 42 i45 (.agg #[.string ⟨#[]⟩,.int .i64 0,.string ⟨#[]⟩]) 3 40 Tryz.underlying25 hi hz0 hz1 hz2 rfl (by decide) (.slice a st.l.length cap) st7.l.length (flat3 st7.l) (by simp[Act.eval]) (O5.out.alloc _) ⟨w5.heap.size,0,none⟩ 1 1 [.string path,.int .i64 2,.string d] (by simp[Act.eval]) rfl (cell_three_at _ _ _ _ _ _ rfl) (fun x hx=>by simp at hx;rcases hx with rfl | rfl | rfl <;> rfl) (by unfold maxLen;omega) (by omega) (by simp;try omega) ?_;intro v6 w6 hown6 hgrow6 hat6;obtain ⟨g6,cap6,rfl,hcap6⟩:=own_form hown6 (by omega);have hR6:=hide ((hgrow6.block R (by simp;try omega) hrow5.out).trans (block_keep (w:=w5) _ Q5.out.1.blk));have c46:w6.cell? ⟨R,4,none⟩=some (.slice a st.l.length cap):=(by simp[World.cell?,hR6.out]);have f46:w6.frozen? ⟨R,4,none⟩=false:=(by simp[World.frozen?,hR6.out]);have hO6:=hide hown6;have hG6:=hide hgrow6;clear hown6 hgrow6 hat6))
  all_goals
   obtain ⟨hR7,hB7,hK7⟩:=Q5.out.1.push ⟨path,2,d⟩ hO6.out (((KT.refl [42] w5).alloc _).grown (O5.out.alloc _) hG6.out (by decide)) (((Below.refl B w5).alloc hB5 _).grown hG6.out (by simp;try omega) (fun k hk=>(O5.out.lt k hk).1)) hP7;generalize w6.setCell ⟨R,4,none⟩ (.slice (some ⟨g6,0,none⟩) (st7.l.length+1) cap6)=W7 at hR7 hB7 hK7 ⊢;have cC:=hide (rmust_any hR7 wClose hs);have HB7:=hide hB7;clear hO6 hG6 hR6 c46 f46 c45 c4 hR7 hB7
   go_wp2_with fail
   refine cC.out.mono ?_;rintro e w8 ⟨⟨r8,rfl⟩,hq8⟩;go_wp2;go_end0;exact ⟨⟨_,rfl⟩,(QR1.out.trans Q5.out).q ⟨⟨_,hq8.1⟩,HB7.out.trans hq8.2.1,hK7.trans (hq8.2.2.mono (by decide))⟩⟩
 ·have tb4:=list_ne hx _ exec_list;rw[if_neg hx];unfold dataN;clear hx;have hm5:=next_mono s.data.toList 100 st4;have hl5:=next_l s.data.toList 100 st4;generalize e5:nextN s.data.toList 100 st4=NX at *;obtain ⟨st5,d⟩:=NX;simp only at hm5 hl5 ⊢;rw[hl4]at hl5;have E5:=hide e5;have hL5:=congrArg List.length hl5;have hP5:st5.l.length+1≤st5.pos:=by omega
  clear e5 hl4 hl5 hL5;go_enter Tryz.func87,Tryz.ntmps87
  go_wp2_with fail
  refine cM1.out.mono ?_;rintro e w1 ⟨⟨r,rfl⟩,hq1⟩;have Q1:=hide hq1;have c4:w1.cell? ⟨R,4,none⟩=some (.slice a st.l.length cap):=by simp[World.cell?,hq1.1.blk]
  have cM2:=hide (rmust_any hq1.1 wType hs);rw[E2.out]at cM2;clear cM1 c1 hq1
  go_wp2_with fail
  refine cM2.out.mono ?_;rintro e w2 ⟨⟨r2,rfl⟩,hq2⟩;have Q2:=hide (Q1.out.trans hq2);have cW:=hide (rword_new hq2.1 [wFile,wLink,wDir] #[.string ⟨#[102,105,108,101]⟩,.string ⟨#[108,105,110,107]⟩,.string ⟨#[100,105,114]⟩] rfl 3 rfl w2.heap.size rfl (by simp) hs);rw[E3.out]at cW;clear cM2 c4 hq2 Q1
  go_wp2_with fail
  refine cW.out.mono ?_;rintro e w3 ⟨rfl,hq3⟩;have Q3:=hide (Q2.out.trans hq3);have cX:=hide (rword_new hq3.1 [wExec,wData] #[.string ⟨#[101,120,101,99]⟩,.string ⟨#[100,97,116,97]⟩] rfl 2 rfl w3.heap.size rfl (by simp) hs);rw[E4.out]at cX;clear cW hq3 Q2
  go_wp2_with fail
  refine cX.out.mono ?_;rintro e w4 ⟨rfl,hq4⟩;have Q4:=hide (Q3.out.trans hq4);clear cX hq4 Q3;have cN:=hide (rnext_any (Q4.out.1.new (drewB w4)) 100 (by omega) hs);rw[E5.out]at cN;have c4:w4.cell? ⟨R,4,none⟩=some (.slice a st.l.length cap):=by simp[World.cell?,Q4.out.1.blk]
  go_wp2
  go_region_law (first
   | (have _g:=cN;clear _g;go_simp;go_wp2_with (go_at_call 56;refine cN.out.mono ?_;rintro e w5 ⟨rfl,hq5⟩;have Q5:=hide (QP.after (drewB w4) Q4.out.1.Bw hq5);have O5:=hide hq5.1.nd;have c45:w5.cell? ⟨R,4,none⟩=some (.slice a st.l.length cap):=(by simp[World.cell?,hq5.1.blk]);have hrow5:=hide (fun e:some R=(Value.slice a st.l.length cap).ownBlock=>hq5.1.row e.symm);have hle5:=hq5.1.le;have hR5:=hq5.1.lt;have hB5:=hq5.1.Bw;clear hq5 cN))
   | (refine step_append_own rfl (.tmp 49) (.tmp 55) 25 rfl B 42 i45 (.agg #[.string ⟨#[]⟩,.int .i64 0,.string ⟨#[]⟩]) 3 40 Tryz.underlying25 hi hz0 hz1 hz2 rfl (by decide) (.slice a st.l.length cap) st5.l.length (flat3 st5.l) (by simp[Act.eval]) (O5.out.alloc _) ⟨w5.heap.size,0,none⟩ 1 1 [.string path,.int .i64 1,.string d] (by simp[Act.eval]) rfl (cell_three_at _ _ _ _ _ _ rfl) (fun x hx=>by simp at hx;rcases hx with rfl | rfl | rfl <;> rfl) (by unfold maxLen;omega) (by omega) (by simp;try omega) ?_;intro v6 w6 hown6 hgrow6 hat6;obtain ⟨g6,cap6,rfl,hcap6⟩:=own_form hown6 (by omega);have hR6:=hide ((hgrow6.block R (by simp;try omega) hrow5.out).trans (block_keep (w:=w5) _ Q5.out.1.blk));have c46:w6.cell? ⟨R,4,none⟩=some (.slice a st.l.length cap):=(by simp[World.cell?,hR6.out]);have f46:w6.frozen? ⟨R,4,none⟩=false:=(by simp[World.frozen?,hR6.out]);have hO6:=hide hown6;have hG6:=hide hgrow6;clear hown6 hgrow6 hat6))
  all_goals
   obtain ⟨hR7,hB7,hK7⟩:=Q5.out.1.push ⟨path,1,d⟩ hO6.out (((KT.refl [42] w5).alloc _).grown (O5.out.alloc _) hG6.out (by decide)) (((Below.refl B w5).alloc hB5 _).grown hG6.out (by simp;try omega) (fun k hk=>(O5.out.lt k hk).1)) hP5;generalize w6.setCell ⟨R,4,none⟩ (.slice (some ⟨g6,0,none⟩) (st5.l.length+1) cap6)=W7 at hR7 hB7 hK7 ⊢;have cC:=hide (rmust_any hR7 wClose hs);have HB7:=hide hB7;clear hO6 hG6 hR6 c46 f46 c45 c4 hR7 hB7
   go_wp2_with fail
   refine cC.out.mono ?_;rintro e w8 ⟨⟨r8,rfl⟩,hq8⟩;go_wp2;go_end0;exact ⟨⟨_,rfl⟩,(Q4.out.trans Q5.out).q ⟨⟨_,hq8.1⟩,HB7.out.trans hq8.2.1,hK7.trans (hq8.2.2.mono (by decide))⟩⟩
end Go.Proofs.YticfcjmlphhpgaaGreatDoor
