/- Rows in memory that may be cut shorter than their block; append, copy and make of them. -/
import Derived.Test.YthopnfbjiifhhaaGreatDoorGCb
import Derived.Deep.AppendSrc
import Derived.Laws.CopyOwn
namespace Go.Proofs.YthopnfbjiifhhaaGreatDoor
open Go.RowKit
structure Mod(S:Nat->Prop)(w w':World):Prop where
 os:w'.os=w.os
 tape:w'.tape=w.tape
 output:w'.output=w.output
 size:w.heap.size<=w'.heap.size
 block:∀k,k<w.heap.size->¬S k->w'.heap[k]?=w.heap[k]?
theorem Mod.refl(S:Nat->Prop)(w:World):Mod S w w:=⟨rfl,rfl,rfl,aag _,fun _ _ _=>rfl⟩
variable{S S':Nat->Prop}{a b c w w':World}{p:Addr}
theorem Mod.trans(h:Mod S a b)(k:Mod S' b c)(hs:∀i,S' i->S i\/a.heap.size<=i):Mod S a c:=
 ⟨k.os.trans h.os,k.tape.trans h.tape,k.output.trans h.output,aai h.size k.size,fun i hi hn=>by
  rw [k.block i (aam hi h.size) (fun h'=>by rcases hs i h' with h2|h2;exact hn h2;omega),h.block i hi hn]⟩
theorem Mod.mono(h:Mod S a b)(hs:∀i,i<a.heap.size->S i->S' i):Mod S' a b:=
 ⟨h.os,h.tape,h.output,h.size,fun i hi hn=>h.block i hi (fun h'=>hn (hs i hi h'))⟩
theorem Mod.aS(S:Nat->Prop)(h:Below w.heap.size w w'):Mod S w w':=⟨h.os,h.tape,h.output,h.size,fun k hk _=>h.block k hk⟩
theorem Mod.below{B:Nat}(h:Mod S w w')(hB:B<=w.heap.size)(hs:∀k,k<w.heap.size->S k->B<=k):Below B w w':=
 ⟨h.os,h.tape,h.output,h.size,fun k hk=>h.block k (by omega) (fun h'=>by have:=hs k (by omega) h';omega)⟩
theorem Mod.after(h:Mod S a b)(k:Below b.heap.size b c):Mod S a c:=h.trans (Mod.aS (fun _=>False) k) (fun _ h=>h.elim)
theorem Mod.setCell(h:Mod S a w)(hp:S p.block\/a.heap.size<=p.block)(u:Value):Mod S a (w.setCell p u):=
 h.trans (S':=fun k=>k=p.block) ⟨rfl,rfl,rfl,by simp [World.setCell],fun k _ hn=>aay _ _ _ _ hn⟩ (fun i hi=>by rw [hi];exact hp)
theorem Mod.cell(h:Mod S w w')(hp:p.block<w.heap.size)(hn:¬S p.block):w'.cell? p=w.cell? p:=aa1 (w:=w) (h.block p.block hp hn)
theorem Mod.frozen(h:Mod S w w')(hp:p.block<w.heap.size)(hn:¬S p.block):w'.frozen? p=w.frozen? p:=aby (w:=w) (h.block p.block hp hn)
theorem Mod.setRow(h:Mod S a w){g:Nat}(hp:S g\/a.heap.size<=g)(cs:Array Value):Mod S a (w.setRow g cs):=
 h.trans (S':=fun k=>k=g) ⟨rfl,rfl,rfl,by simp [World.setRow],fun k _ hn=>setRow_other w g k cs hn⟩ (fun i hi=>by rw [hi];exact hp)
theorem fk(w:World):Below w.heap.size w w:=aak _ _
theorem aA(w:World)(o:Obj):Below w.heap.size w (w.alloc o):=(aak _ w).alloc (aag _) o
def ae(a:Option Addr):Option Nat:=a.map (·.block)
def Row(w:World)(e:TypeId)(size:Nat)(a:Option Addr)(n cap:Nat)(xs:List Value):Prop:=
 xs.length=n*size/\n<=cap/\cap<=maxLen/\((a=none/\cap=0)\/∃g cur,a=some ⟨g,0,none⟩/\w.heap[g]?=some (.cells cur e (0,0))/\cap*size<=cur.size/\cur.toList.take (n*size)=xs)
def Rd(w:World)(a:Option Addr)(xs:List Value):Prop:=∀j u,xs[j]?=some u->∃b o,a=some ⟨b,o,none⟩/\w.cell? ⟨b,o+j,none⟩=some u
section
variable{w w':World} {e:TypeId} {size:Nat} {a:Option Addr} {n cap:Nat} {xs:List Value}
theorem Row.rd(h:Row w e size a n cap xs):Rd w a xs:=fun j u hj=>by
 obtain ⟨h1,h2,h3,h4⟩:=h;have hl:j<xs.length:=by
  rcases aaU j xs.length with h|h
  ·exact h
  ·rw [aas h]at hj;cases hj
 rcases h4 with⟨rfl,hc⟩|⟨g,cur,rfl,hg,hs,ht⟩
 ·exfalso;have:n=0:=by omega
  rw [this,Nat.zero_mul]at h1;omega
 ·refine ⟨g,0,rfl, ?_⟩;rw [aaH,aaa _ _ _ _ _ _ hg];rw [<-ht,aaO]at hj;split at hj
  ·simpa using hj
  ·cases hj
theorem Row.lt(h:Row w e size a n cap xs):∀k,ae a=some k->k<w.heap.size:=fun k hk=>by
 obtain ⟨_,_,_,⟨rfl,_⟩|⟨g,cur,rfl,hg,_⟩⟩:=h
 ·cases hk
 ·cases hk
  exact (aab.1 hg).1
theorem Row.kept(h:Row w e size a n cap xs)(hk:∀k,ae a=some k->w'.heap[k]?=w.heap[k]?):Row w' e size a n cap xs:=by
 obtain ⟨h1,h2,h3,⟨rfl,h4⟩|⟨g,cur,rfl,hg,h5⟩⟩:=h
 ·exact ⟨h1,h2,h3,.inl ⟨rfl,h4⟩⟩
 ·exact ⟨h1,h2,h3,.inr ⟨g,cur,rfl,by rw [hk g rfl];exact hg,h5⟩⟩
theorem Row.mod{S:Nat->Prop}(h:Row w e size a n cap xs)(hm:Mod S w w')(hn:∀k,ae a=some k->¬S k):Row w' e size a n cap xs:=
 h.kept fun k hk=>hm.block k (h.lt k hk) (hn k hk)
theorem Row.below(h:Row w e size a n cap xs)(hm:Below w.heap.size w w'):Row w' e size a n cap xs:=h.kept fun k hk=>hm.block k (h.lt k hk)
theorem Row.nil:Row w e size none 0 0 []:=⟨by simp,aag _,aaq _,.inl ⟨rfl,rfl⟩⟩
theorem Row.len(h:Row w e size a n cap xs):xs.length=n*size:=h.1
theorem Row.zR(h:Row w e size a n cap xs):n<=cap:=h.2.1
theorem mZ{w:World}{e:TypeId}{size g n:Nat}{cs:Array Value}(hg:w.heap[g]?=some (.cells cs e (0,0)))(hs:cs.size=n*size)(hn:n<=maxLen):Row w e size (some ⟨g,0,none⟩) n n cs.toList:=
 ⟨by simpa using hs,aag _,hn,.inr ⟨g,cs,rfl,hg,by omega,by rw [aap (by simp [hs])]⟩⟩
theorem Row.cut(h:Row w e size a n cap xs)(m c:Nat)(hm:m<=n)(KK:m<=c)(hc:c<=cap)(ha:a=none->c=0):Row w e size a m c (xs.take (m*size)):=by
 obtain ⟨h1,h2,h3,h4⟩:=h;have hle:m*size<=n*size:=aaI _ hm;refine ⟨by rw [aa4,h1];omega,KK,by omega, ?_⟩;rcases h4 with⟨rfl,h5⟩|⟨g,cur,rfl,hg,hs,ht⟩
 ·exact .inl ⟨rfl,by omega⟩
 ·refine .inr ⟨g,cur,rfl,hg,aai (aaI _ hc) hs, ?_⟩;rw [<-ht,List.take_take,aaW hle]
theorem Row.cell(h:Row w e size a n cap xs)(j:Nat)(hj:j<n*size):∃g,a=some ⟨g,0,none⟩/\w.cell? ⟨g,j,none⟩=xs[j]?:=by
 obtain ⟨h1,h2,h3,⟨rfl,h5⟩|⟨g,cur,rfl,hg,hs,ht⟩⟩:=h
 ·exfalso;have:n=0:=by omega
  rw [this,Nat.zero_mul]at hj;omega
 ·refine ⟨g,rfl, ?_⟩;rw [aaa _ _ _ _ _ _ hg,<-ht,aaO,aah hj];simp
theorem Row.free(h:Row w e size a n cap xs)(j:Nat):∀g,a=some ⟨g,0,none⟩->w.frozen? ⟨g,j,none⟩=false:=fun g ha=>by
 obtain ⟨h1,h2,h3,⟨rfl,h5⟩|⟨g',cur,rfl,hg,hs,ht⟩⟩:=h
 ·cases ha
 ·cases ha
  simp [World.frozen?,hg]
theorem Row.head(h:Row w e size a n cap xs)(hn:0<n):∃g,a=some ⟨g,0,none⟩:=by
 obtain ⟨h1,h2,h3,⟨rfl,h5⟩|⟨g',cur,rfl,_⟩⟩:=h
 ·omega
 ·exact ⟨_,rfl⟩
theorem Row.room(h:Row w e size a n cap xs):a=none->cap=0:=fun ha=>by
 obtain ⟨h1,h2,h3,⟨rfl,h5⟩|⟨g',cur,rfl,_⟩⟩:=h
 ·exact h5
 ·cases ha
theorem Rd.below(h:Rd w a xs)(hm:Below w.heap.size w w'):Rd w' a xs:=fun j u hj=>by
 obtain ⟨b,o,rfl,hc⟩:=h j u hj;exact ⟨b,o,rfl,by rw [hm.cell (p:=⟨b,o+j,none⟩) (aaj w _ hc)];exact hc⟩
theorem Rd.mod{S:Nat->Prop}(h:Rd w a xs)(hb:∀k,ae a=some k->k<w.heap.size->¬S k)(hm:Mod S w w'):Rd w' a xs:=fun j u hj=>by
 obtain ⟨b,o,rfl,hc⟩:=h j u hj;have hl:=aaj w _ hc;exact ⟨b,o,rfl,by rw [hm.cell (p:=⟨b,o+j,none⟩) hl (hb b rfl hl)];exact hc⟩
end
variable{P:Program}{w:World}{n size:Nat}{xs:List Value}{t:TypeId}
theorem Rd.src{a:Option Addr}{c:Nat}{e':TypeId}(h:Rd w a xs)(ht:P.underlying t=some (.slice e'))(hl:xs.length=n*size)(hs:0<size)(h1:∀u∈xs,u.oneCell'=true):Src P size t (.slice a n c) n xs w:=by
 cases a with
 |none=>
  have hn:xs=[]:=by
   rcases xs with _|⟨x,xs⟩
   ·rfl
   ·obtain ⟨b,o,h2,_⟩:=h 0 x rfl;cases h2
  subst hn;have:n=0:=by
   rcases Nat.eq_zero_or_pos n with h|h
   ·exact h
   ·exfalso;have:=Nat.mul_pos h hs;simp at hl;omega
  subst this;exact Src.ofNil w ht c
 |some ad=>
  refine Src.ofSlice w ht ad n c xs hl (fun j u hj=> ?_) h1;obtain ⟨b,o,h2,h3⟩:=h j u hj
  cases h2
  rw [kO];exact h3
theorem mD(w:World)(t e:TypeId)(i:TypeInfo)(z:Value)(size bytes:Nat)(ht:P.underlying t=some (.slice e))(hi:P.info? e=some i)(hz:i.zero=some z)
 (Ci:i.size=size)(pX:i.bytes=bytes)(gI:z.cells.size=size)
 {a:Option Addr}{n cap:Nat}{xs:List Value}(hR:Row w e size a n cap xs)(x:Value)(m:Nat)(news:List Value)(hs:Src P size t x m news w)
 (h63:n+m<=maxLen)(B_:(n+m)*bytes<=140737488355328):
 ∃a' cap' w',(∀ty,(Builtin.append_ #[t,t] ty #[.slice a n cap,x]).run P w=.ok (.slice a' (n+m) cap') w')/\Row w' e size a' (n+m) cap' (xs++news)/\Mod (fun k=>ae a=some k) w w'/\(∀k,ae a'=some k->ae a=some k\/w.heap.size<=k)/\(a'=a\/ae a'=some w.heap.size):=by
 subst Ci;obtain ⟨h1,h2,h3,h4⟩:=hR;have gY:=hs.newsLen;by_cases vY:n+m<=cap
 ·rcases h4 with⟨rfl,h5⟩|⟨g,cur,rfl,hg,cD,jN⟩
  ·have wM:n=0:=by omega
   have ud:m=0:=by omega
   subst wM ud h5;refine ⟨none,0,w, ?_, ?_,Mod.refl _ _,fun k hk=>(by cases hk),.inl rfl⟩
   ·intro ty;simp [Builtin.append_,run_underlying ht,sizeOf,typeInfo,hi,hs.len,hs.cells]
   ·refine ⟨by simp [h1,gY],aag _,h3,.inl ⟨rfl,rfl⟩⟩
  ·have gU:n*i.size+news.length<=cur.size:=by
    have:=aaI i.size vY;rw [abq]at this;omega
   have aJ:=run_storeCells_at P g (n*i.size) e news 0 cur w hg (by simpa using gU) hs.one;simp only [Nat.add_zero]at aJ;refine ⟨some ⟨g,0,none⟩,cap,w.setRow g (cur.toList.take (n*i.size)++news++cur.toList.drop (n*i.size+news.length)).toArray, ?_, ?_,(Mod.refl (fun k=>ae (some ⟨g,0,none⟩)=some k) w).setRow (.inl rfl) _,fun k hk=> .inl hk,.inl rfl⟩
   ·intro ty;simp [Builtin.append_,run_underlying ht,sizeOf,typeInfo,hi,hs.len,vY,hs.cells,Addr.add_lit,aJ]
   ·refine ⟨by rw [aal,h1,gY,abq],vY,h3,.inr ⟨g,_,rfl,setRow_heap _ _ _ _ _ _ hg, ?_, ?_⟩⟩
    ·simp;omega
    ·rw [jN];simp only
     rw [aaQ,<-aaQ,aaS (by rw [aal,h1,gY,abq];omega),aap (by rw [aal,h1,gY,abq];omega)]
 ·have hold:(Builtin.firstCells i.size n (.slice a n cap)).run P w.drew=.ok xs.toArray w.drew:=by
   rcases h4 with⟨rfl,h5⟩|⟨g,cur,rfl,hg,cD,jN⟩
   ·have wM:n=0:=by omega
    subst wM;have:xs=[]:=aaN (by simpa using h1);subst this;exact run_firstCells_none _ _ _ _ _
   ·refine run_firstCells_some _ _ _ _ _ _ _ h1 (fun j v hj=> ?_);rw [kO,aaH];have fV:=hj;rw [<-jN,aaO]at fV;split at fV
    ·have:=aaa w g j cur e (0,0) hg;simpa [this]using fV
    ·cases fV
  have hg:=fun ty=>run_append_grow_src (P:=P) w t t ty e i z ht hi hz a n cap xs hold x m news hs (by omega) (by unfold maxLen at h63;omega) (growslice_fits (by omega) (by rw [pX];exact B_))
  refine ⟨_,_,_,hg, ?_, ?_,fun k hk=> ?_,.inr rfl⟩
  ·have iP:n+m<=grownCap w (n+m) cap e/\grownCap w (n+m) cap e<=maxLen:=by
    have h0:cap<n+m:=by omega
    have hf:=growslice_fits (bytes:=bytes) h0 (by exact B_);exact ⟨grownCap_ge w (n+m) cap e,grownCap_le_maxLen w (n+m) cap e h63⟩
   refine ⟨by rw [aal,h1,gY,abq],iP.1,iP.2,.inr ⟨_,_,rfl,aae _ _, ?_, ?_⟩⟩
   ·simp [size_zeroCells,gI,h1,gY];rw [<-abq,<-abq];exact aaI _ (by omega)
   ·simp only [Array.toList_append];rw [aaS (by simp [h1,gY,Nat.add_mul]),aap (by simp [h1,gY,Nat.add_mul])]
  ·exact (Mod.aS _ ((aak _ w).drew)).after (aA w.drew _)
  ·cases hk;exact .inr (aag _)
theorem MB(w:World)(dT sT ty elem:TypeId)(size:Nat)(g o wv D6:Nat)(a:Addr)(wA D7:Nat)(cur:Array Value)(t:TypeId)(cs:List Value)
 (hu:P.underlying dT=some (.slice elem))(hs:(P.info? elem).map (·.size)=some size)
 (hg:w.heap[g]?=some (.cells cur t (0,0)))(hn:cs.length=Nat.min wA wv*size)
 (Kj:∀j v,cs[j]?=some v->w.cell? (a.add j)=some v)(gU:o+cs.length<=cur.size)(h1:∀v∈cs,v.oneCell'=true):
 (Builtin.copy_ #[dT,sT] ty #[.slice (some ⟨g,o,none⟩) wv D6,.slice (some a) wA D7]).run P w=
  .ok (goInt (Nat.min wA wv)) (w.setRow g (cur.toList.take o++cs++cur.toList.drop (o+cs.length)).toArray):=by
 have hl:=run_loadCells_list (P:=P) w a cs Kj;have aJ:=run_storeCells_at P g o t cs 0 cur w hg (by simpa using gU) h1;simp only [Nat.add_zero]at aJ
 cases hq:P.info? elem with
 |none=>simp [hq]at hs
 |some i=>
  have hi:i.size=size:=by simpa [hq]using hs
  simp [Builtin.copy_,run_underlying hu,Builtin.lenOf,Builtin.firstCells,sizeOf,typeInfo,hq,hi,<-hn,hl,aJ]
theorem Mx(w:World)(dT sT ty elem:TypeId)(size:Nat)(d a:Option Addr)(wv D6 wA D7:Nat)(hu:P.underlying dT=some (.slice elem))(hs:(P.info? elem).map (·.size)=some size)(hn:Nat.min wA wv=0):
 (Builtin.copy_ #[dT,sT] ty #[.slice d wv D6,.slice a wA D7]).run P w=.ok (goInt 0) w:=by
 cases hq:P.info? elem with
 |none=>simp [hq]at hs
 |some i=>
  have hl:∀(x:Addr),(loadCells x 0).run P w=.ok #[] w:=fun x=>by simpa using run_loadCells_list (P:=P) w x [] (by simp)
  cases d<;>cases a<;>simp [Builtin.copy_,run_underlying hu,Builtin.lenOf,Builtin.firstCells,sizeOf,typeInfo,hq,hn,storeCells,hl]
theorem T5(w:World)(T e:TypeId)(size:Nat)(cD:0<size)(hu:P.underlying T=some (.slice e))(hs:(P.info? e).map (·.size)=some size)
 {a:Option Addr}{n c:Nat}{xs:List Value}(hR:Rd w a xs)(hl:xs.length=n*size)(hn:n<=maxLen)(h1:∀v∈xs,v.oneCell'=true)
 (zs:Array Value)(hz:zs.size=n*size):
 ∃w',(∀ty,(Builtin.copy_ #[T,T] ty #[.slice (some ⟨w.heap.size,0,none⟩) n n,.slice a n c]).run P (w.alloc (.cells zs e))=.ok (goInt n) w')/\Row w' e size (some ⟨w.heap.size,0,none⟩) n n xs/\Below w.heap.size w w':=by
 have hh:=aae w (.cells zs e);by_cases h0:n=0
 ·subst h0;refine ⟨_,fun ty=>Mx _ T T ty e size _ _ _ _ _ _ hu hs (by simp), ?_,aA w _⟩;have:xs=[]:=aaN (by simpa using hl);subst this;have:=mZ (size:=size) (n:=0) hh hz hn
  rwa [show zs.toList=[]from aaN (by simpa using hz)]at this
 ·have Ab:0<n*size:=Nat.mul_pos (by omega) cD
  obtain ⟨b,o,rfl,Av⟩:=hR 0 (xs[0]'(by omega)) (by rw [aad])
  have hb:b<w.heap.size:=aaj w _ Av;have nD:Nat.min n n=n:=Nat.min_self n
  have hc:=fun ty=>MB (P:=P) (w.alloc (.cells zs e)) T T ty e size w.heap.size 0 n n ⟨b,o,none⟩ n c zs e xs hu hs hh (by rw [nD];exact hl) (fun j v hj=>by
   obtain ⟨b',o',h2,h3⟩:=hR j v hj
   cases h2
   rw [kO,(aA w _).cell (p:=⟨b,o+j,none⟩) hb]
   exact h3) (by omega) h1
  rw [nD]at hc;refine ⟨_,hc, ?_,(aA w _).trans ⟨rfl,rfl,rfl,by simp [World.setRow],fun k hk=>setRow_other _ _ _ _ (by omega)⟩⟩;have tO:(List.take 0 zs.toList++xs++List.drop (0+xs.length) zs.toList)=xs:=by
   simp;omega
  rw [tO];have:=mZ (w:=(w.alloc (.cells zs e)).setRow w.heap.size xs.toArray) (e:=e) (size:=size) (g:=w.heap.size) (n:=n) (cs:=xs.toArray) (setRow_heap _ _ _ _ _ _ hh) (by simpa using hl) hn;simpa using this
theorem aU{b i:Nat}{cs:Array Value}{fr:Nat×Nat}(h:w.heap[b]?=some (.cells cs t fr))(u:Value):(w.setCell ⟨b,i,none⟩ u).heap[b]?=some (.cells (cs.setIfInBounds i u) t fr):=by
 simp [World.setCell,Array.getElem?_modify,h]
theorem Row.put{e:TypeId}{g cap:Nat}(h:Row w e size (some ⟨g,0,none⟩) n cap xs)(j:Nat)(u:Value):Row (w.setCell ⟨g,j,none⟩ u) e size (some ⟨g,0,none⟩) n cap (xs.set j u):=by
 obtain ⟨h1,h2,h3,⟨h4,_⟩|⟨g',cur,h4,h5,h6,h7⟩⟩:=h
 ·cases h4
 ·cases h4
  refine ⟨by simpa using h1,h2,h3,.inr ⟨g,_,rfl,aU h5 u,by simpa using h6, ?_⟩⟩;rw [Array.toList_setIfInBounds,List.take_set,h7]
end Go.Proofs.YthopnfbjiifhhaaGreatDoor
