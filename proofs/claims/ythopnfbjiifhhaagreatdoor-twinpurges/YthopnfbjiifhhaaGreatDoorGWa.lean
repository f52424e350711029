/- The wheel's mathematics: things in order, heaps, what is taken off. -/
import Derived.Test.YthopnfbjiifhhaaGreatDoorGXLW1
import Init
import Derived.Deep.RegionHeld3
import Derived.Deep.DeepCutAuto
import Derived.Sort.Grow
import Derived.RangeFuncNested
import Derived.RangeFuncBound
import Derived.Shelf.RegionOpen
import Derived.LoopNIn
import Derived.LoopIn
import Derived.Sort.MapsRangeIn
set_option maxHeartbeats 2000000
set_option maxRecDepth 100000
namespace Go.Proofs.YthopnfbjiifhhaaGreatDoor.aZ
open Go.Proofs.Tryz
abbrev Th:=Int×Int
def cZ(a b:Th):Prop:=a.1<b.1\/a.1=b.1/\a.2<b.2
instance(a b:Th):Decidable (cZ a b):=by unfold cZ;infer_instance
theorem FH(a:Th):¬cZ a a:=by unfold cZ;omega
variable{a b c t:Th}{n j i:Nat}{O L:List Th}{id:Int}
theorem MQ(h:cZ a b):¬cZ b a:=by unfold cZ at*;omega
theorem ltT_trans(h:cZ a b)(k:cZ b c):cZ a c:=by unfold cZ at*;omega
theorem Jk(h:¬cZ b a)(k:¬cZ c b):¬cZ c a:=by unfold cZ at*;omega
theorem leT_ltT(h:¬cZ c b)(k:cZ a b):¬cZ c a:=by unfold cZ at*;omega
def par(c:Nat):Nat:=(c-1)/2
def gF(f:Nat->Th)(n:Nat):Prop:=∀c,0<c->c<n->¬cZ (f c) (f (par c))
def sw(f:Nat->Th)(i j:Nat):Nat->Th:=fun c=>if c=j then f i else if c=i then f j else f c
def sF(f:Nat->Th)(n j:Nat):Prop:=(∀c,0<c->c<n->c≠j->¬cZ (f c) (f (par c)))/\∀c,0<c->c<n->par c=j->0<j->¬cZ (f c) (f (par j))
def qY(f:Nat->Th)(n i:Nat):Prop:=(∀c,0<c->c<n->par c≠i->¬cZ (f c) (f (par c)))/\∀c,0<c->c<n->par c=i->0<i->¬cZ (f c) (f (par i))
theorem pP{c:Nat}(h:0<c):par c<c:=by unfold par;omega
theorem sF.step{f:Nat->Th}(h:sF f n j)(hj:0<j)(uo:j<n)(hl:cZ (f j) (f (par j))):sF (sw f (par j) j) n (par j):=by
 have hp:=pP hj;have ej:∀c,c≠j->c≠par j->sw f (par j) j c=f c:=fun c h1 h2=>by unfold sw;rw [aaf h1,aaf h2]
 have e1:sw f (par j) j j=f (par j):=by unfold sw;rw [aah rfl]
 have e2:sw f (par j) j (par j)=f j:=by unfold sw;rw [aaf (by omega),aah rfl]
 refine ⟨fun c h0 hn hc=> ?_,fun c h0 hn hc X5=> ?_⟩
 ·have Es:=pP h0;by_cases oU:c=j
  ·subst oU;rw [e1,e2];exact MQ hl
  ·rw [ej c oU hc];by_cases h1:par c=j
   ·rw [h1,e1];exact h.2 c h0 hn h1 hj
   ·by_cases h2:par c=par j
    ·rw [h2,e2];have:=h.1 c h0 hn oU;rw [h2]at this;exact leT_ltT this hl
    ·rw [ej _ h1 h2];exact h.1 c h0 hn oU
 ·have Ex:=pP X5;rw [ej (par (par j)) (by omega) (by omega)];have CU:=h.1 (par j) X5 (by omega) (by omega);by_cases oU:c=j
  ·subst oU;rw [e1];exact CU
  ·have Es:=pP h0;rw [ej c oU (by omega)];have:=h.1 c h0 hn oU;rw [hc]at this;exact Jk CU this
theorem sF.OE{f:Nat->Th}(h:sF f n 0):gF f n:=fun c h0 hn=>h.1 c h0 hn (by omega)
theorem sF.done{f:Nat->Th}(h:sF f n j)(hl:¬cZ (f j) (f (par j))):gF f n:=fun c h0 hn=>by
 by_cases hc:c=j
 ·subst hc;exact hl
 ·exact h.1 c h0 hn hc
theorem sF.push{f g:Nat->Th}(h:gF f n)(hg:∀i,i<n->g i=f i):sF g (n+1) n:=⟨fun c h0 hn hc=>by
 have:=pP h0;rw [hg c (by omega),hg (par c) (by omega)]
 exact h c h0 (by omega),fun c h0 hn hc=>by have:=pP h0;omega⟩
theorem Jl{c:Nat}(h0:0<c):par c=i↔c=2*i+1\/c=2*i+2:=by unfold par;omega
theorem qY.step{f:Nat->Th}(h:qY f n i)(X6:0<j)(uo:j<n)(CU:par j=i)(nD:∀c,0<c->c<n->par c=i->¬cZ (f c) (f j))(hl:cZ (f j) (f i)):qY (sw f i j) n j:=by
 have iI:=pP X6;rw [CU]at iI;have ej:∀c,c≠j->c≠i->sw f i j c=f c:=fun c h1 h2=>by unfold sw;rw [aaf h1,aaf h2]
 have e1:sw f i j j=f i:=by unfold sw;rw [aah rfl]
 have e2:sw f i j i=f j:=by unfold sw;rw [aaf (by omega),aah rfl]
 refine ⟨fun c h0 hn hc=> ?_,fun c h0 hn hc _=> ?_⟩
 ·have Es:=pP h0;by_cases oU:c=j
  ·subst oU;rw [e1,CU,e2];exact MQ hl
  ·by_cases X7:c=i
   ·subst X7;rw [e2,ej (par c) (by omega) (by omega)];exact h.2 j X6 uo CU h0
   ·rw [ej c oU X7];by_cases h1:par c=i
    ·rw [h1,e2];exact nD c h0 hn h1
    ·rw [ej _ hc h1];exact h.1 c h0 hn h1
 ·have Es:=pP h0;rw [CU,e2,ej c (by omega) (by omega)];have:=h.1 c h0 hn (by omega)
  rwa [hc]at this
theorem qY.OE{f:Nat->Th}(h:qY f n i)(hi:n<=2*i+1):gF f n:=fun c h0 hn=>h.1 c h0 hn (fun e=>by have:=(Jl h0).1 e;omega)
theorem qY.done{f:Nat->Th}(h:qY f n i)(nD:∀c,0<c->c<n->par c=i->¬cZ (f c) (f j))(hl:¬cZ (f j) (f i)):gF f n:=fun c h0 hn=>by
 by_cases hc:par c=i
 ·rw [hc];exact Jk hl (nD c h0 hn hc)
 ·exact h.1 c h0 hn hc
theorem qY.pop{f g:Nat->Th}(h:gF f (n+1))(hg:∀i,0<i->i<n->g i=f i):qY g n 0:=⟨fun c h0 hn hc=>by
 have:=pP h0;rw [hg c h0 hn,hg (par c) (by omega) (by omega)]
 exact h c h0 (by omega),fun _ _ _ _ h0=>absurd h0 (by omega)⟩
theorem gF.root{f:Nat->Th}(h:gF f n)(c:Nat):c<n->¬cZ (f c) (f 0):=by
 induction c using Nat.strongRecOn with
 |ind c ih=>
  intro hn;by_cases h0:c=0
  ·subst h0;exact FH _
  ·have hp:=pP (show 0<c by omega);exact Jk (ih _ hp (by omega)) (h c (by omega) hn)
theorem gF.sorted{f:Nat->Th}(h:∀i j,i<j->j<n->¬cZ (f j) (f i)):gF f n:=fun _ h0 hn=>h _ _ (pP h0) hn
def ay(O:List Th)(i:Nat):Th:=O.getD i (0,0)
def jP(O:List Th)(i j:Nat):List Th:=(O.set i (ay O j)).set j (ay O i)
theorem DS(O:List Th)(i j:Nat):(jP O i j).length=O.length:=by simp [jP]
theorem UR(h:i<O.length):O[i]?=some (ay O i):=by
 unfold ay;rw [aac,aad h];rfl
theorem zN(h:i<O.length):ay O i∈O:=aba (UR h)
theorem JM{x:Th}(h:x∈O):∃i,i<O.length/\ay O i=x:=by
 obtain ⟨i,hi,e⟩:=aaZ h;refine ⟨i,hi, ?_⟩;have:=UR hi;rw [aad hi]at this;rw [<-e];exact (aau this).symm
theorem Cc(hi:i<O.length)(hj:j<O.length)(c:Nat):ay (jP O i j) c=sw (ay O) i j c:=by
 unfold sw;have:∀c,ay (jP O i j) c=((jP O i j)[c]?).getD (0,0):=fun c=>by unfold ay;rw [aac]
 rw [this];unfold jP;rw [aaP,aaP];by_cases h1:j=c
 ·subst h1;rw [aah rfl,aah rfl,aaz,aah hj];rfl
 ·have jY:¬c=j:=fun e=>h1 e.symm
  rw [aaf h1,aaf jY];by_cases h2:i=c
  ·subst h2;rw [aah rfl,aah rfl,aah hi];rfl
  ·have oM:¬c=i:=fun e=>h2 e.symm
   rw [aaf h2,aaf oM];unfold ay;rw [aac]
theorem NH(hi:i<O.length)(hj:j<O.length):ay (jP O i j)=sw (ay O) i j:=funext (Cc hi hj)
theorem NI(hi:i<O.length)(hj:j<O.length)(x:Th):x∈jP O i j↔x∈O:=by
 constructor
 ·intro h;obtain ⟨c,hc,e⟩:=JM h;rw [DS]at hc;rw [Cc hi hj]at e;unfold sw at e;split at e
  ·rw [<-e];exact zN hi
  ·split at e
   ·rw [<-e];exact zN hj
   ·rw [<-e];exact zN hc
 ·intro h;obtain ⟨c,hc,e⟩:=JM h;have key:∀d,d<O.length->ay (jP O i j) d=x->x∈jP O i j:=fun d hd e=>by rw [<-e];exact zN (by rw [DS];exact hd)
  by_cases h1:c=i
  ·subst h1;exact key j hj (by rw [Cc hi hj];unfold sw;rw [aah rfl];exact e)
  ·by_cases h2:c=j
   ·subst h2;exact key i hi (by rw [Cc hi hj];unfold sw;split<;>rename_i h3;(· rw [h3];exact e);(rw [aah rfl];exact e))
   ·exact key c hc (by rw [Cc hi hj];unfold sw;rw [aaf h2,aaf h1];exact e)
theorem tAt_app_left{P:List Th}(h:i<O.length):ay (O++P) i=ay O i:=by
 unfold ay;rw [aac,aac,aaE h]
theorem Nh(h:i<n):ay (O.take n) i=ay O i:=by
 unfold ay;rw [aac,aac,aaO,aah h]
def si(t:Th):Prop:=(0<=t.1/\t.1<=9223372036854775807)/\0<=t.2/\t.2<=9223372036854775807
def jq(id:Int)(L:List Th):List Th:=L.filter (fun t=>t.2 !=id)
def mF(id due:Int)(L:List Th):List Th:=jq id L++[(due,id)]
structure gA(L:List Th):Prop where
 qZ:L.Pairwise (fun a b=>a.2≠b.2)
 fit:∀t∈L,si t
theorem pK:t∈jq id L↔t∈L/\t.2≠id:=by simp [jq]
theorem gA.nil:gA []:=⟨List.Pairwise.nil,fun _ h=>absurd h aaF⟩
theorem gA.jq(h:gA L)(id:Int):gA (jq id L):=⟨h.qZ.filter _,fun t ht=>h.fit t (pK.1 ht).1⟩
theorem gA.set(h:gA L){due:Int}(hf:si (due,id)):gA (mF id due L):=by
 refine ⟨?_,fun t ht=> ?_⟩
 ·unfold mF;rw [List.pairwise_append];refine ⟨(h.jq id).qZ,List.pairwise_singleton _ _,fun a ha b hb=> ?_⟩;simp at hb;subst hb;exact (pK.1 ha).2
 ·unfold mF at ht;rcases aaX.1 ht with h1|h1
  ·exact (h.jq id).fit t h1
  ·simp at h1;subst h1;exact hf
theorem gA.uniq(h:gA L)(ha:a∈L)(hb:b∈L)(e:a.2=b.2):a=b:=by
 have hn:=h.qZ;clear h
 induction L with
 |nil=>exact absurd ha aaF
 |cons x r ih=>
  rw [List.pairwise_cons]at hn;rcases aa0.1 ha with rfl|h1
  ·rcases aa0.1 hb with rfl|h2
   ·rfl
   ·exact absurd e (hn.1 b h2)
  ·rcases aa0.1 hb with rfl|h2
   ·exact absurd e.symm (hn.1 a h1)
   ·exact ih h1 h2 hn.2
def isSet(id:Int)(L:List Th):Bool:=L.any (fun t=>t.2==id)
theorem rR:isSet id L=true↔∃t∈L,t.2=id:=by simp [isSet]
theorem Uf(h:isSet id L=false):jq id L=L:=by
 unfold jq;rw [List.filter_eq_self];intro t ht;unfold isSet at h;have:=List.any_eq_false.1 h t ht;simp at this;simpa using this
theorem NJ(h:gA L)(hs:isSet id L=true):(jq id L).length+1=L.length:=by
 have hn:=h.qZ;obtain ⟨t,ht,e⟩:=rR.1 hs;clear h hs
 induction L with
 |nil=>exact absurd ht aaF
 |cons x r ih=>
  rw [List.pairwise_cons]at hn;unfold jq at*
  by_cases hx:x.2=id
  ·rw [List.filter_cons_of_neg (by simp [hx])];have:r.filter (fun t=>t.2 !=id)=r:=by
    rw [List.filter_eq_self];intro a ha;have:=hn.1 a ha;simp;omega
   rw [this];rfl
  ·rw [List.filter_cons_of_pos (by simp [hx])];rcases aa0.1 ht with rfl|h1
   ·exact absurd e hx
   ·have:=ih hn.2 h1;simp only [List.length_cons];omega
def qP(id:Int)(L:List Th):Int×Bool:=match L.find? (fun t=>t.2==id)with|some t=>(t.1,true)|none=>(0,false)
theorem MR(h:gA L)(ht:t∈L):qP t.2 L=(t.1,true):=by
 unfold qP
 cases hf:L.find? (fun u=>u.2==t.2)with
 |none=>
  have:=List.find?_eq_none.1 hf t ht;simp at this
 |some u=>
  have h1:=List.find?_some hf;have h2:=List.mem_of_find?_eq_some hf;simp at h1;rw [h.uniq h2 ht h1]
theorem MT(h:isSet id L=false):qP id L=(0,false):=by
 unfold qP;have:L.find? (fun u=>u.2==id)=none:=by
  rw [List.find?_eq_none];intro t ht;have:=List.any_eq_false.1 h t ht;simpa using this
 rw [this]
def OG(L:List Th)(m:Th):Prop:=m∈L/\∀x∈L,¬cZ x m
inductive oI(now:Int):List Th->List Th->List Th->Prop
 |none:oI now [] [] []
 |late {L:List Th} {m:Th}:OG L m->now<m.1->oI now L [] L
 |one {L out L':List Th} {m:Th}:OG L m->m.1<=now->oI now (jq m.2 L) out L'->oI now L (m::out) L'
open Go.RowKit
def iC(l:List Int):List Value:=l.map (.int .i64 ·)
def wP(x:Int×Int):List Value:=[.int .i64 x.1,.int .i64 x.2]
def wC(l:List (Int×Int)):List Value:=l.flatMap wP
theorem oo(l:List Int):(iC l).length=l.length*1:=by simp [iC]
theorem tI(l:List (Int×Int)):(wC l).length=l.length*2:=by
 induction l with
 |nil=>rfl
 |cons x r ih=>simp only [wC,List.flatMap_cons,List.length_append,List.length_cons]at*;rw [ih,show(wP x).length=2 from rfl];omega
theorem xR(l m:List Int):iC (l++m)=iC l++iC m:=by simp [iC]
theorem Ca(l m:List (Int×Int)):wC (l++m)=wC l++wC m:=by simp [wC]
theorem rW(l:List Int)(i:Nat)(h:i<l.length):(iC l)[i]?=some (.int .i64 (l.getD i 0)):=by
 simp [iC,List.getD_eq_getElem?_getD,List.getElem?_eq_getElem h]
theorem v_:∀(l:List (Int×Int)) (i:Nat),i<l.length->(wC l)[i*2]?=some (.int .i64 (l.getD i (0,0)).1)/\(wC l)[i*2+1]?=some (.int .i64 (l.getD i (0,0)).2)
 |[],i,h=>absurd h (aao i)
 |t::ts,0,_=>⟨rfl,rfl⟩
 |t::ts,i+1,h=>by
  have ih:=v_ ts i (by simpa using h);simp only [wC,List.flatMap_cons,List.getD_cons_succ]at*
  rw [aan (by rw [show(wP t).length=2 from rfl];omega),aan (by rw [show(wP t).length=2 from rfl];omega),show(wP t).length=2 from rfl,show(i+1)*2-2=i*2 by omega,show(i+1)*2+1-2=i*2+1 by omega];exact ih
theorem tH(l:List Int):∀u∈iC l,u.oneCell'=true:=by
 intro u hu;obtain ⟨x,_,rfl⟩:=List.mem_map.mp hu;rfl
theorem JX(l:List (Int×Int)):∀u∈wC l,u.oneCell'=true:=by
 intro u hu;simp only [wC,List.mem_flatMap,wP]at hu;obtain ⟨x,_,hx⟩:=hu;simp only [List.mem_cons,List.not_mem_nil,or_false]at hx;rcases hx with rfl|rfl<;>rfl
theorem JJ(l:List Int)(k:Nat):(iC l).drop (k*1)=iC (l.drop k):=by simp [iC]
theorem F5(l:List Int)(k:Nat):(iC l).take (k*1)=iC (l.take k):=by simp [iC,List.map_take]
theorem UM(l:List (Int×Int))(k:Nat):(wC l).drop (k*2)=wC (l.drop k):=by
 induction k generalizing l with
 |zero=>simp
 |succ k ih=>
  cases l with
  |nil=>simp [wC]
  |cons x r=>
   rw [List.drop_succ_cons,<-ih];simp only [wC,List.flatMap_cons];rw [show(k+1)*2=(wP x).length+k*2 by rw [show(wP x).length=2 from rfl];omega,<-List.drop_drop,List.drop_left]
theorem NF(l:List (Int×Int))(k:Nat):(wC l).take (k*2)=wC (l.take k):=by
 induction k generalizing l with
 |zero=>simp [wC]
 |succ k ih=>
  cases l with
  |nil=>simp [wC]
  |cons x r=>
   rw [List.take_succ_cons];simp only [wC,List.flatMap_cons]at*
   rw [<-ih,show(k+1)*2=(wP x).length+k*2 by rw [show(wP x).length=2 from rfl];omega,List.take_length_add_append]
variable{w:World}{P:Program}{e:TypeId}{z:Value}{size bytes n:Nat}{a:Act}{ops:Array Oper}{o:Oper}{O:List Th}
theorem erase_eq{α:Type}(l:List α)(i:Nat):l.take i++l.drop (i+1)=l.eraseIdx i:=(List.eraseIdx_eq_take_drop_succ l i).symm
theorem aU{b i:Nat}{cs:Array Value}{t:TypeId}{fr:Nat×Nat}(h:w.heap[b]?=some (.cells cs t fr))(u:Value):(w.setCell ⟨b,i,none⟩ u).heap[b]?=some (.cells (cs.setIfInBounds i u) t fr):=by
 simp [World.setCell,Array.getElem?_modify,h]
theorem info_parts(h:(P.info? e).map (fun i=>(i.zero,i.size,i.bytes))=some (some z,size,bytes)):∃i,P.info? e=some i/\i.zero=some z/\i.size=size/\i.bytes=bytes:=by
 cases hi:P.info? e with
 |none=>rw [hi]at h;cases h
 |some i=>
  rw [hi]at h;simp only [Option.map_some,Option.some.injEq,Prod.mk.injEq]at h;exact ⟨i,rfl,h.1,h.2.1,h.2.2⟩
theorem below_drewN{B:Nat}{a:World}(h:Below B a w)(n:Nat):Below B a (w.drewN n):=⟨h.os,h.tape,h.output,h.size,h.block⟩
theorem tF(t e:TypeId)(z:Value)(size bytes:Nat)(ht:prog.underlying t=some (.slice e))(hi:(prog.info? e).map (fun i=>(i.zero,i.size,i.bytes))=some (some z,size,bytes))(n:Nat)(hb:bytes*n<=281474976710656)(h63:n<=maxLen)(W:World):
 (Instr.makeSlice t (.int .i64 (n:Int)) (.int .i64 (n:Int))).run prog W=.ok (.slice (some ⟨W.heap.size,0,none⟩) n n) (W.alloc (.cells (madeCells z.cells (n*size)) e)):=by
 obtain ⟨i,h1,h2,h3,h4⟩:=info_parts hi;subst h3 h4;have xX:(n:Int)<=9223372036854775807:=by
  have h:=h63;simp [maxLen]at h;omega
 have eW:(i.bytes:Int)*(n:Int)<=281474976710656:=by
  have h:((i.bytes*n:Nat):Int)<=281474976710656:=by omega
  rwa [Int.natCast_mul]at h
 have hr:=run_make (P:=prog) W t e i z ht h1 h2 .i64 .i64 n n (by omega) (abe _) eW xX;simp only [Int.toNat_natCast]at hr;exact hr
theorem mX{T:TypeId}(hu:prog.underlying T=some (.slice e))(kI:(prog.info? e).map (fun i=>(i.zero,i.size,i.bytes))=some (some z,size,bytes))(gI:z.cells.size=size)
 {w:World}{a:Option Addr}{n c:Nat}{xs:List Value}(hR:Row w e size a n c xs)(hn:n<maxLen)(pX:(n+1)*bytes<=140737488355328)(us:List Value)(yq:us.length=size)(h1:∀u∈us,u.oneCell'=true):
 ∃a' c' w',(∀ty,(Builtin.append_ #[T,T] ty #[.slice a n c,.slice (some ⟨w.heap.size,0,none⟩) 1 1]).run prog (w.alloc (.cells us.toArray e))=.ok (.slice a' (n+1) c') w')/\
  Row w' e size a' (n+1) c' (xs++us)/\Mod (fun k=>ae a=some k) w w'/\(∀k,ae a'=some k->ae a=some k\/w.heap.size<=k):=by
 obtain ⟨i,k1,k2,k3,k4⟩:=info_parts kI;have hb:=aA w (.cells us.toArray e);have hh:=aae w (.cells us.toArray e);have hs:Src prog size T (.slice (some ⟨w.heap.size,0,none⟩) 1 1) 1 us (w.alloc (.cells us.toArray e)):=by
  refine Src.ofSlice _ hu _ _ _ _ (by omega) (fun j u hj=> ?_) h1;rw [kO,aaa _ _ _ _ _ _ hh,aaH];simpa using hj
 obtain ⟨a',c',w',m1,m2,m3,m4,_⟩:=mD (P:=prog) _ T e i _ size bytes hu k1 k2 k3 k4 gI (hR.below hb) _ 1 _ hs (by omega) pX;refine ⟨a',c',w',m1,m2,(Mod.aS _ hb).trans m3 (fun _ h=> .inl h),fun k hk=> ?_⟩;rcases m4 k hk with h|h
 ·exact .inl h
 ·exact .inr (by have:=hb.size;omega)
theorem dZ{rest:List Oper}{Q:Exit->Act->World->Prop}(lM:o.guard=none)(s x:Operand)(t:TypeId)
 (ho:o.op=.call {callee:=.builtin .append,args:=#[s,x],argTypes:=#[t,t]})(v vx v':Value)(w':World)(hs:a.eval s=v)(hx:a.eval x=vx)
 (fK:∀ty,(Builtin.append_ #[t,t] ty #[v,vx]).run P w=.ok v' w')(h:wpList P ops Q rest (a.put o.dst v') w'):wpList P ops Q (o::rest) a w:=
 wpList_plain lM fun K hK=>by
  unfold Oper.wp execOp
  simp only [ho,resolve,invoke,builtin,Sem.run_bind,Sem.run_pure,Result.andThen_ok,List.map_toArray,List.map_cons,List.map_nil,hs,hx,fK];exact hK _ _ h
theorem rN{K:Act->World->Prop}{Q:Exit->Act->World->Prop}{E:Prop}(lM:o.guard=none)(s x:Operand)(t:TypeId)
 (ho:o.op=.call {callee:=.builtin .append,args:=#[s,x],argTypes:=#[t,t]})(v vx v':Value)(w':World)(hs:a.eval s=v)(hx:a.eval x=vx)
 (fK:∀ty,(Builtin.append_ #[t,t] ty #[v,vx]).run P w=.ok v' w')(h:K (a.put o.dst v') w'):if Region.wanted o (yielded ops a.tmps)=true then Oper.wp P o a w K Q else E:=by
 have hw:Region.wanted o (yielded ops a.tmps)=true:=by simp [Region.wanted,lM]
 rw [aah hw];unfold Oper.wp execOp;simp only [ho,resolve,invoke,builtin,Sem.run_bind,Sem.run_pure,Result.andThen_ok,List.map_toArray,List.map_cons,List.map_nil,hs,hx,fK];exact h
theorem VV:(prog.info? 249).map (fun i=>(i.zero,i.size,i.bytes))=some (some (.agg #[.int .i64 0,.int .i64 0]),2,16):=by kernel_rfl
theorem Ck:(prog.info? 3).map (fun i=>(i.zero,i.size,i.bytes))=some (some (.int .i64 0),1,8):=by kernel_rfl
theorem zS{a:Option Addr}{c:Nat}(h:Row w e 2 a n c (wC O))(i:Nat)(hi:i<O.length):∃g,a=some ⟨g,0,none⟩/\w.cell? ⟨g,i*2,none⟩=some (.int .i64 (ay O i).1)/\w.cell? ⟨g,i*2+1,none⟩=some (.int .i64 (ay O i).2):=by
 have hl:=h.len;rw [tI]at hl;obtain ⟨g,rfl,h0⟩:=h.cell (i*2) (by omega);obtain ⟨g',e,h1⟩:=h.cell (i*2+1) (by omega)
 cases e
 exact ⟨g,rfl,by rw [h0];exact (v_ O i hi).1,by rw [h1];exact (v_ O i hi).2⟩
theorem Vp:∀(O:List Th) (i:Nat) (t:Th),((wC O).set (i*2) (.int .i64 t.1)).set (i*2+1) (.int .i64 t.2)=wC (O.set i t)
 |[],i,t=>by simp [wC]
 |x::r,0,t=>rfl
 |x::r,i+1,t=>by
  have ih:=Vp r i t;have e:∀y (l:List Th),wC (y::l)=wP y++wC l:=fun y l=>by simp [wC]
  rw [List.set_cons_succ,e,e,<-ih,aa6 _ _ (by rw [show(wP x).length=2 from rfl];omega),aa6 _ _ (by rw [show(wP x).length=2 from rfl];omega),show(wP x).length=2 from rfl,show(i+1)*2-2=i*2 by omega,show(i+1)*2+1-2=i*2+1 by omega]
theorem _root_.Go.Proofs.YthopnfbjiifhhaaGreatDoor.Row.WR{g cap:Nat}(h:Row w e 2 (some ⟨g,0,none⟩) n cap (wC O))(i:Nat)(t:Th):Row ((w.setCell ⟨g,i*2,none⟩ (.int .i64 t.1)).setCell ⟨g,i*2+1,none⟩ (.int .i64 t.2)) e 2 (some ⟨g,0,none⟩) n cap (wC (O.set i t)):=by
 have:=(h.put (i*2) (.int .i64 t.1)).put (i*2+1) (.int .i64 t.2)
 rwa [Vp]at this
def pV(a b:Int):Int:=if a<b then-1 else if b<a then 1 else 0
def w_(x y:Th):Int:=if pV x.1 y.1=0 then pV x.2 y.2 else pV x.1 y.1
theorem Vq(x y:Th):decide (w_ x y<0)=decide (cZ x y):=by
 unfold w_ pV cZ;by_cases h1:x.1<y.1
 ·simp [h1]
 ·by_cases h2:y.1<x.1
  ·simp [h1,h2];omega
  ·have e:x.1=y.1:=by omega
   simp only [e];by_cases h3:x.2<y.2
   ·simp [h3]
   ·by_cases h4:y.2<x.2<;>simp [h3,h4]
theorem Ta(x:Int)(w:World):Calls prog 233 #[.int .i64 x] w fun e w'=>e=.returned (.bool false)/\w'=w:=by
 go_enter func233,ntmps233
 go_wp2
 go_ret;exact ⟨rfl,rfl⟩
theorem TA(x:Int)(w:World):Calls prog 234 #[.int .i64 x] w fun e w'=>e=.returned (.bool false)/\w'=w:=by
 go_enter func234,ntmps234
 go_wp2
 go_ret;exact ⟨rfl,rfl⟩
theorem compareI_any(x y:Int)(w:World):Calls prog 211 #[.int .i64 x,.int .i64 y] w fun e w'=>e=.returned (.int .i64 (pV x y))/\w'=w:=by
 have hx:=Ta x w;have hy:=Ta y w;unfold pV;by_cases h1:x<y
 ·rw [aah h1];go_enter func211,ntmps211;go_wp2_with (first|(go_at_call 233;refine hx.mono ?_;rintro e1 w1 ⟨rfl,rfl⟩)|(go_at_call 233;refine hy.mono ?_;rintro e1 w1 ⟨rfl,rfl⟩));go_ret;exact ⟨rfl,rfl⟩
 ·rw [aaf h1];by_cases h2:y<x
  ·rw [aah h2];have jY:decide (x<y)=false:=by simpa using h1
   clear h1;go_enter func211,ntmps211;go_wp2_with (first|(go_at_call 233;refine hx.mono ?_;rintro e1 w1 ⟨rfl,rfl⟩)|(go_at_call 233;refine hy.mono ?_;rintro e1 w1 ⟨rfl,rfl⟩));go_ret;exact ⟨rfl,rfl⟩
  ·rw [aaf h2];have jY:decide (x<y)=false:=by simpa using h1
   have oM:decide (y<x)=false:=by simpa using h2
   clear h1 h2;go_enter func211,ntmps211;go_wp2_with (first|(go_at_call 233;refine hx.mono ?_;rintro e1 w1 ⟨rfl,rfl⟩)|(go_at_call 233;refine hy.mono ?_;rintro e1 w1 ⟨rfl,rfl⟩));go_ret;exact ⟨rfl,rfl⟩
theorem compareN_any(x y:Int)(w:World):Calls prog 212 #[.int .i64 x,.int .i64 y] w fun e w'=>e=.returned (.int .i64 (pV x y))/\w'=w:=by
 have hx:=TA x w;have hy:=TA y w;unfold pV;by_cases h1:x<y
 ·rw [aah h1];go_enter func212,ntmps212;go_wp2_with (first|(go_at_call 234;refine hx.mono ?_;rintro e1 w1 ⟨rfl,rfl⟩)|(go_at_call 234;refine hy.mono ?_;rintro e1 w1 ⟨rfl,rfl⟩));go_ret;exact ⟨rfl,rfl⟩
 ·rw [aaf h1];by_cases h2:y<x
  ·rw [aah h2];have jY:decide (x<y)=false:=by simpa using h1
   clear h1;go_enter func212,ntmps212;go_wp2_with (first|(go_at_call 234;refine hx.mono ?_;rintro e1 w1 ⟨rfl,rfl⟩)|(go_at_call 234;refine hy.mono ?_;rintro e1 w1 ⟨rfl,rfl⟩));go_ret;exact ⟨rfl,rfl⟩
  ·rw [aaf h2];have jY:decide (x<y)=false:=by simpa using h1
   have oM:decide (y<x)=false:=by simpa using h2
   clear h1 h2;go_enter func212,ntmps212;go_wp2_with (first|(go_at_call 234;refine hx.mono ?_;rintro e1 w1 ⟨rfl,rfl⟩)|(go_at_call 234;refine hy.mono ?_;rintro e1 w1 ⟨rfl,rfl⟩));go_ret;exact ⟨rfl,rfl⟩
theorem or_any(x y:Int)(g:Nat)(w:World)(h0:w.cell? ⟨g,0,none⟩=some (.int .i64 x))(h1:w.cell? ⟨g,1,none⟩=some (.int .i64 y)):
 Calls prog 210 #[.slice (some ⟨g,0,none⟩) 2 2] w fun e w'=>e=.returned (.int .i64 (if x=0 then y else x))/\w'=w:=by
 obtain ⟨R,hR⟩:=Haa (if x=0 then y else x);rw [hR.out];go_enter func210,ntmps210
 go_wp2
 go_loopg [5,8] 2 (fun k _ v8 wr=>∃i:Nat,v8=.int .i64 i/\i+k=2/\wr=w/\Hid (R=if i=0 then(if x=0 then y else x)else if i=1 then y else 0))
 case atStart=>exact ⟨0,rfl,rfl,rfl,hd (by rw [hR.out];rfl)⟩
 case round=>
  obtain ⟨i,rfl,dh,rfl,HE⟩:=hrel;clear hR;by_cases Ei:i=0
  ·subst Ei;by_cases hx:x=0
   ·have xh:(x==0)=true:=by simp [hx]
    have Qg:Hid (R=y):=hd (by rw [HE.out,hx];rfl);clear hx HE
    go_wp2
    go_roundg (gk-1)
    case measure=>omega
    case rel=>exact ⟨1,rfl,by omega,rfl,hd (by rw [Qg.out];rfl)⟩
   ·have xh:(x==0)=false:=by simpa using hx
    obtain rfl:R=x:=by rw [HE.out];simp [hx]
    clear hx HE
    go_wp2
    go_ret;exact ⟨rfl,rfl⟩
  ·by_cases Qh:i=1
   ·subst Qh;by_cases hy:y=0
    ·have hy':(y==0)=true:=by simp [hy]
     have Qg:Hid (R=0):=hd (by rw [HE.out,hy];rfl);clear hy HE Ei
     go_wp2
     go_roundg (gk-1)
     case measure=>omega
     case rel=>exact ⟨2,rfl,by omega,rfl,hd (by rw [Qg.out];rfl)⟩
    ·have hy':(y==0)=false:=by simpa using hy
     obtain rfl:R=y:=by rw [HE.out];simp
     clear hy HE Ei
     go_wp2
     go_ret;exact ⟨rfl,rfl⟩
   ·obtain rfl:i=2:=by omega
    obtain rfl:R=0:=by rw [HE.out];rfl
    clear HE Ei Qh
    go_wp2
    go_ret;exact ⟨rfl,rfl⟩
open Go.RowKit Go.Sort
theorem grow_below(w:World)(n:Nat)(os:Array Obj):Below w.heap.size w (grow (w.drewN n) os):=
 ⟨rfl,rfl,rfl,by simp [grow,World.drewN],fun k hk=>by
  unfold grow World.drewN
  exact Array.getElem?_append_left hk⟩
theorem Sz(x y:Th)(W:World):Calls prog 179 #[.agg #[.int .i64 x.1,.int .i64 x.2],.agg #[.int .i64 y.1,.int .i64 y.2]] W fun e w'=>e=.returned (.int .i64 (w_ x y))/\∃q os,w'=grow (W.drewN q) os:=by
 obtain ⟨x1,x2⟩:=x;obtain ⟨y1,y2⟩:=y;have h1:=fun w=>compareI_any x1 y1 w
 have h2:=fun w=>compareN_any x2 y2 w
 have ho:=fun g w h0 h1=>or_any (pV x1 y1) (pV x2 y2) g w h0 h1
 have eC:(if pV x1 y1=0 then pV x2 y2 else pV x1 y1)=w_ (x1,x2) (y1,y2):=rfl;rw [eC]at ho;generalize w_ (x1,x2) (y1,y2)=R at ho⊢;clear eC;generalize pV x1 y1=c1 at h1 ho;generalize pV x2 y2=c2 at h2 ho;go_enter func179,ntmps179;go_upto_region 1 with fail;obtain ⟨w0,iv⟩:=Haa ((W.alloc (.cells #[.int .i64 x1,.int .i64 x2] 249)).alloc (.cells #[.int .i64 y1,.int .i64 y2] 249));have k0:w0.cell? ⟨W.heap.size,0,none⟩=some (.int .i64 x1):=by rw [<-iv.out];simp
 have k1:w0.cell? ⟨W.heap.size,1,none⟩=some (.int .i64 x2):=by rw [<-iv.out];simp
 have k2:w0.cell? ⟨W.heap.size+1,0,none⟩=some (.int .i64 y1):=by rw [<-iv.out];simp
 have k3:w0.cell? ⟨W.heap.size+1,1,none⟩=some (.int .i64 y2):=by rw [<-iv.out];simp
 have HW:Hid (∃os,w0=grow W os):=hd ⟨_,by rw [<-iv.out,alloc_eq_grow,alloc_eq_grow,grow_grow]⟩;rw [iv.out];clear iv;go_region_held3 (fun w'=>w'.cell? ⟨W.heap.size,0,none⟩=some (.int .i64 x1)/\w'.cell? ⟨W.heap.size,1,none⟩=some (.int .i64 x2)/\w'.cell? ⟨W.heap.size+1,0,none⟩=some (.int .i64 y1)/\w'.cell? ⟨W.heap.size+1,1,none⟩=some (.int .i64 y2)) (go_keep)
  (first
   |(go_at_call 211;refine (h1 _).mono ?_;rintro e1 w1 ⟨rfl,rfl⟩)
   |(go_at_call 212;refine (h2 _).mono ?_;rintro e1 w1 ⟨rfl,rfl⟩)
   |(go_at_call 210;refine (ho _ _ (by simp) (by simp)).mono ?_;rintro e1 w1 ⟨rfl,rfl⟩))
 go_wp2_with fail;go_ret;obtain ⟨os,rfl⟩:=HW.out;exact ⟨rfl,1,os++#[_],by rw [alloc_eq_grow];exact grow_grow W.drew os _⟩
variable{a:Option Addr}{n c i j:Nat}{w:World}{O:List Th}
theorem Ug:Calls prog 304 #[.slice a n c] w fun e w'=>e=.returned (.int .i64 n)/\w'=w:=by
 go_enter func304,ntmps304
 go_wp2
 go_ret;exact ⟨rfl,rfl⟩
theorem Ni(h:Row w 249 2 a n c (wC O))(hi:i<n)(hj:j<n)(B:Bool)(hB:B=decide (cZ (ay O i) (ay O j))):
 Calls prog 305 #[.slice a n c,.int .i64 (i:Int),.int .i64 (j:Int)] w fun e w'=>e=.returned (.bool B)/\Below w.heap.size w w':=by
 have hl:=h.len;rw [tI]at hl;obtain ⟨g,rfl,c0,c1⟩:=zS h i (by omega);obtain ⟨g',e,d0,d1⟩:=zS h j (by omega)
 cases e
 have af:=h.lt g rfl;rw [<-Vq]at hB;have hc:=fun W=>Sz (ay O i) (ay O j) W
 generalize ay O i=x at*
 generalize ay O j=y at*
 obtain ⟨x1,x2⟩:=x;obtain ⟨y1,y2⟩:=y;simp only at c0 c1 d0 d1 hc;have gj:(i:Int)<(n:Int):=by omega
 have fV:(j:Int)<(n:Int):=by omega
 generalize w_ (x1,x2) (y1,y2)=R at*
 have wR:decide (R<0)=B:=hB.symm;clear h hl hB;go_enter func305,ntmps305;go_wp2_with fail;go_region_held3 (fun w'=>w'.cell? ⟨g,i*2,none⟩=some (.int .i64 x1)/\w'.cell? ⟨g,i*2+1,none⟩=some (.int .i64 x2)/\w'.cell? ⟨g,j*2,none⟩=some (.int .i64 y1)/\w'.cell? ⟨g,j*2+1,none⟩=some (.int .i64 y2)) (go_keep)
  (first
    |(go_at_call 179;refine (hc _).mono ?_;rintro e1 w1 ⟨rfl,q,os,hq⟩
      have b1:Below w.heap.size w w1:=by rw [hq];exact Below.trans (aak _ w).drew (by exact grow_below w.drew q os)
      obtain ⟨k0,k1,k2,k3⟩:w1.cell? ⟨g,i*2,none⟩=some (.int .i64 x1)/\w1.cell? ⟨g,i*2+1,none⟩=some (.int .i64 x2)/\w1.cell? ⟨g,j*2,none⟩=some (.int .i64 y1)/\w1.cell? ⟨g,j*2+1,none⟩=some (.int .i64 y2):=⟨by rw [b1.cell (p:=⟨g,i*2,none⟩) af];exact c0,by rw [b1.cell (p:=⟨g,i*2+1,none⟩) af];exact c1,by rw [b1.cell (p:=⟨g,j*2,none⟩) af];exact d0,by rw [b1.cell (p:=⟨g,j*2+1,none⟩) af];exact d1⟩
      clear hq))
 go_wp2_with fail;go_ret;exact ⟨rfl,b1⟩
theorem Ja(W:World)(g:Nat){p q:Nat}(h:q≠p)(u:Value):(W.setCell ⟨g,p,none⟩ u).cell? ⟨g,q,none⟩=W.cell? ⟨g,q,none⟩:=by
 apply World.cell?_setCell_other;intro e;injection e with _ e2 _;exact h e2.symm
theorem Sr{S:Nat->Prop}{g:Nat}(hg:S g)(p q r s:Nat)(u1 u2 u3 u4:Value):Mod S w ((((w.drew.setCell ⟨g,p,none⟩ u1).setCell ⟨g,q,none⟩ u2).setCell ⟨g,r,none⟩ u3).setCell ⟨g,s,none⟩ u4):=
 (((((Mod.aS S ((aak _ w).drew)).setCell (p:=⟨g,p,none⟩) (.inl hg) u1).setCell (p:=⟨g,q,none⟩) (.inl hg) u2).setCell (p:=⟨g,r,none⟩) (.inl hg) u3).setCell (p:=⟨g,s,none⟩) (.inl hg) u4)
theorem Nj(h:Row w 249 2 a n c (wC O))(hi:i<n)(hj:j<n):
 Calls prog 306 #[.slice a n c,.int .i64 (i:Int),.int .i64 (j:Int)] w fun e w'=>e=.returned (.tuple #[])/\Row w' 249 2 a n c (wC (jP O i j))/\Mod (fun k=>ae a=some k) w w':=by
 have hl:=h.len;rw [tI]at hl;obtain ⟨g,rfl,c0,c1⟩:=zS h i (by omega);obtain ⟨g',e,d0,d1⟩:=zS h j (by omega)
 cases e
 have f0:=h.free (i*2) g rfl;have f1:=h.free (i*2+1) g rfl;have f2:=h.free (j*2) g rfl;have f3:=h.free (j*2+1) g rfl;have HE:Hid (Row ((((w.drew.setCell ⟨g,i*2,none⟩ (.int .i64 (ay O j).1)).setCell ⟨g,i*2+1,none⟩ (.int .i64 (ay O j).2)).setCell ⟨g,j*2,none⟩ (.int .i64 (ay O i).1)).setCell ⟨g,j*2+1,none⟩ (.int .i64 (ay O i).2)) 249 2 (some ⟨g,0,none⟩) n c (wC (jP O i j))):=hd
  (((h.below ((aak _ w).drew)).WR i (ay O j)).WR j (ay O i))
 have gj:(i:Int)<(n:Int):=by omega
 have fV:(j:Int)<(n:Int):=by omega
 clear h hl;by_cases iI:i=j
 ·subst iI;clear d0 d1 f2 f3 hj fV;generalize ay O i=x at*
  obtain ⟨x1,x2⟩:=x;simp only at c0 c1 HE;go_enter func306,ntmps306;go_wp2_with fail;go_region;go_end0;exact ⟨rfl,HE.out,Sr (S:=fun k=>ae (some ⟨g,0,none⟩)=some k) rfl _ _ _ _ _ _ _ _⟩
 ·generalize ay O i=x at*
  generalize ay O j=y at*
  obtain ⟨x1,x2⟩:=x;obtain ⟨y1,y2⟩:=y;simp only at c0 c1 d0 d1 HE;have q0:∀(W:World) (u:Value),(W.setCell ⟨g,i*2,none⟩ u).cell? ⟨g,j*2,none⟩=W.cell? ⟨g,j*2,none⟩:=fun W u=>Ja W g (by omega) u
  have q1:∀(W:World) (u:Value),(W.setCell ⟨g,i*2+1,none⟩ u).cell? ⟨g,j*2,none⟩=W.cell? ⟨g,j*2,none⟩:=fun W u=>Ja W g (by omega) u
  have q2:∀(W:World) (u:Value),(W.setCell ⟨g,i*2,none⟩ u).cell? ⟨g,j*2+1,none⟩=W.cell? ⟨g,j*2+1,none⟩:=fun W u=>Ja W g (by omega) u
  have q3:∀(W:World) (u:Value),(W.setCell ⟨g,i*2+1,none⟩ u).cell? ⟨g,j*2+1,none⟩=W.cell? ⟨g,j*2+1,none⟩:=fun W u=>Ja W g (by omega) u
  clear iI;go_enter func306,ntmps306;go_wp2_with fail;go_region;go_end0;exact ⟨rfl,HE.out,Sr (S:=fun k=>ae (some ⟨g,0,none⟩)=some k) rfl _ _ _ _ _ _ _ _⟩
open Go.RowKit Go.Sort Go.Shelf
theorem mPush(p:Addr)(w:World):Sem.run prog (method 490 251 (.pointer (some p)) "Push") w=.ok (308,.pointer (some p)) w:=by kernel_rfl
theorem mPop(p:Addr)(w:World):Sem.run prog (method 490 251 (.pointer (some p)) "Pop") w=.ok (307,.pointer (some p)) w:=by kernel_rfl
variable{b n c j:Nat}{a:Option Addr}{w:World}
theorem loadVar_ths{i:Nat}(h:w.cell? ⟨b,i,none⟩=some (.slice a n c)):Sem.run prog (loadVar 235 ⟨b,i,none⟩) w=.ok (.slice a n c) w:=by
 simp [loadVar,go_sem,h]
theorem wrapNil(P:Program)(xt:TypeId)(p:Addr)(s t:String)(w:World):Sem.run P (Builtin.ssaWrapNilChk_ #[xt] xt #[.pointer (some p),strVal s,strVal t]) w=.ok (.pointer (some p)) w:=rfl
theorem Pf{f:Nat}{name:String}(hm:(prog.info? 251).map (fun i=>(i.methods.find? (·.name==name)).map (fun m=>(m.path.toList,m.func)))=some (some ([],some (f,false))))(h:w.cell? ⟨b,j,none⟩=some (.slice a n c)):
 Sem.run prog (method 490 251 (.pointer (some ⟨b,j,none⟩)) name) w=.ok (f,.slice a n c) w:=by
 have hl:=loadVar_ths h
 cases hi:prog.info? 251 with
 |none=>rw [hi]at hm;cases hm
 |some i=>
  rw [hi]at hm;simp only [Option.map_some,Option.some.injEq]at hm
  cases hf:i.methods.find? (·.name==name)with
  |none=>rw [hf]at hm;cases hm
  |some m=>
   rw [hf]at hm;simp only [Option.map_some,Option.some.injEq,Prod.mk.injEq]at hm;obtain ⟨h1,h2⟩:=hm;unfold method;have hp:m.path=#[]:=Array.toList_eq_nil_iff.1 h1;simp [typeInfo,hi,hf,h2,hp,follow,receiverAt,Result.andThen,Place.get,wrapNil,asAddr,hl,run_underlying underlying251]
theorem WS(h:w.cell? ⟨b,j,none⟩=some (.slice a n c)):Sem.run prog (method 490 251 (.pointer (some ⟨b,j,none⟩)) "Len") w=.ok (304,.slice a n c) w:=Pf (by kernel_rfl) h
theorem VW(h:w.cell? ⟨b,j,none⟩=some (.slice a n c)):Sem.run prog (method 490 251 (.pointer (some ⟨b,j,none⟩)) "Less") w=.ok (305,.slice a n c) w:=Pf (by kernel_rfl) h
theorem OH(h:w.cell? ⟨b,j,none⟩=some (.slice a n c)):Sem.run prog (method 490 251 (.pointer (some ⟨b,j,none⟩)) "Swap") w=.ok (306,.slice a n c) w:=Pf (by kernel_rfl) h
theorem WT(args:Array Value)(w:World):(callFunc 304 args).run prog w=.ok (.enter 304 args) w:=enters_of func304 (by kernel_rfl) rfl args w
theorem VX(args:Array Value)(w:World):(callFunc 305 args).run prog w=.ok (.enter 305 args) w:=enters_of func305 (by kernel_rfl) rfl args w
theorem OI(args:Array Value)(w:World):(callFunc 306 args).run prog w=.ok (.enter 306 args) w:=enters_of func306 (by kernel_rfl) rfl args w
theorem ePush(args:Array Value)(w:World):(callFunc 308 args).run prog w=.ok (.enter 308 args) w:=enters_of func308 (by kernel_rfl) rfl args w
theorem ePop(args:Array Value)(w:World):(callFunc 307 args).run prog w=.ok (.enter 307 args) w:=enters_of func307 (by kernel_rfl) rfl args w
structure fU(w:World)(b m:Nat)(a:Option Addr)(c:Nat)(O:List Th):Prop where
 obj:w.heap[b]?=some (.cells #[.map (some m),.slice a O.length c] 237 (0,0))
 row:Row w 249 2 a O.length c (wC O)
 ne:∀k,ae a=some k->k≠b
section
variable{w w':World} {b m:Nat} {a:Option Addr} {c:Nat} {O:List Th}
theorem fU.blt(h:fU w b m a c O):b<w.heap.size:=(aab.1 h.obj).1
theorem fU.lt(h:fU w b m a c O):∀k,ae a=some k->k<w.heap.size:=h.row.lt
theorem fU.c0(h:fU w b m a c O):w.cell? ⟨b,0,none⟩=some (.map (some m)):=by rw [aaa _ _ _ _ _ _ h.obj];rfl
theorem fU.c1(h:fU w b m a c O):w.cell? ⟨b,1,none⟩=some (.slice a O.length c):=by rw [aaa _ _ _ _ _ _ h.obj];rfl
theorem fU.free(h:fU w b m a c O)(i:Nat):w.frozen? ⟨b,i,none⟩=false:=by simp [World.frozen?,h.obj]
theorem fU.mod{S:Nat->Prop}(h:fU w b m a c O)(hm:Mod S w w')(hb:¬S b)(hn:∀k,ae a=some k->¬S k):fU w' b m a c O:=⟨by rw [hm.block b h.blt hb];exact h.obj,h.row.mod hm hn,h.ne⟩
theorem fU.below(h:fU w b m a c O)(hb:Below w.heap.size w w'):fU w' b m a c O:=h.mod (Mod.aS (fun _=>False) hb) (fun h=>h) (fun _ _ h=>h)
theorem fU.over{O':List Th}(h:fU w b m a c O)(hm:Mod (fun k=>ae a=some k) w w')(hR:Row w' 249 2 a O'.length c (wC O'))(hl:O'.length=O.length):fU w' b m a c O':=
 ⟨by rw [hm.block b h.blt (fun e=>h.ne b e rfl),hl];exact h.obj,hR,h.ne⟩
theorem fU.lay{O':List Th}{a':Option Addr}{c' n:Nat}(h:w.heap[b]?=some (.cells #[.map (some m),.slice a O.length c] 237 (0,0)))(hR:Row w 249 2 a' n c' (wC O'))(hl:n=O'.length)(hn:∀k,ae a'=some k->k≠b):fU (w.setCell ⟨b,1,none⟩ (.slice a' n c')) b m a' c' O':=by
 subst hl;refine ⟨?_,hR.kept fun k hk=>aay _ _ _ _ (hn k hk),hn⟩;rw [aU h];rfl
end
structure jW(w:World)(b m:Nat)(a:Option Addr)(c:Nat)(O:List Th)(w':World)(O':List Th):Prop where
 hp:fU w' b m a c O'
 len:O'.length=O.length
 mem:∀x,x∈O'↔x∈O
 mod:Mod (fun k=>ae a=some k) w w'
variable{w w1 w2:World}{b m c i j n:Nat}{a a1:Option Addr}{O O' O1 O2:List Th}
theorem jW.refl(h:fU w b m a c O):jW w b m a c O w O:=⟨h,rfl,fun _=>Iff.rfl,Mod.refl _ _⟩
theorem jW.below(h:jW w b m a c O w1 O')(hb:Below w1.heap.size w1 w2):jW w b m a c O w2 O':=⟨h.hp.below hb,h.len,h.mem,h.mod.after hb⟩
theorem jW.swap(h:jW w b m a c O w1 O')(hR:Row w2 249 2 a n c (wC (jP O' i j)))(hM:Mod (fun k=>ae a=some k) w1 w2)(hn:n=O'.length)(hi:i<n)(hj:j<n):jW w b m a c O w2 (jP O' i j):=by
 subst hn;exact ⟨h.hp.over hM (by rw [DS];exact hR) (DS _ _ _),by rw [DS];exact h.len,fun x=>(NI hi hj x).trans (h.mem x),h.mod.trans hM (fun _ h=> .inl h)⟩
theorem up_any{j0:Nat}(h:fU w b m a c O)(hn:O.length=n)(hj:j0<n)(hU:sF (ay O) n j0)(Cw:n<=8796093022208):
 Calls prog 176 #[.iface 251 (.pointer (some ⟨b,1,none⟩)),.int .i64 (j0:Int)] w fun e w'=>e=.returned (.tuple #[])/\∃O',jW w b m a c O w' O'/\gF (ay O') n:=by
 have HH:=hd h;have HU:=hd hU;have HN:=hd hn;clear h hU hn;have mL:∀W:World,W.cell? ⟨b,1,none⟩=some (.slice a n c)->Sem.run prog (method 490 251 (.pointer (some ⟨b,1,none⟩)) "Less") W=.ok (305,.slice a n c) W:=fun W h=>VW h
 have mS:∀W:World,W.cell? ⟨b,1,none⟩=some (.slice a n c)->Sem.run prog (method 490 251 (.pointer (some ⟨b,1,none⟩)) "Swap") W=.ok (306,.slice a n c) W:=fun W h=>OH h
 have eL:=VX;have eS:=OI;go_enter func176,ntmps176;go_wp2_with fail;go_loopg [1,4] j0 (fun k v1 _ wr=>v1=.int .i64 (k:Int)/\k<n/\Hid (∃O',jW w b m a c O wr O'/\sF (ay O') n k))
 case atStart=>exact ⟨rfl,hj,hd ⟨O,jW.refl HH.out,HU.out⟩⟩
 case round=>
  obtain ⟨rfl,vl,HR⟩:=hrel;obtain ⟨O',vm,Hk⟩:=HR.out;have yD:O'.length=n:=by rw [vm.len,HN.out]
  have iy:=vm.hp.c1;have bI:=vm.hp.row;rw [yD]at iy bI;have HO:=hd vm;have HV:=hd Hk;have HL:=hd yD;clear vm Hk yD HR HU HH;by_cases Hl:gk=0
  ·subst Hl;have HE:Hid (∃O',jW w b m a c O wr O'/\gF (ay O') n):=hd ⟨O',HO.out,HV.out.OE⟩;clear HO HV;go_wp2_with fail;go_end0;exact ⟨rfl,HE.out⟩
  ·obtain ⟨p,hp⟩:=Haa (par gk);have hpk:p<gk:=by rw [<-hp.out];exact pP (by omega)
   have hq:((gk:Int)-1).tdiv 2=(p:Int):=by
    rw [<-hp.out,show((gk:Int)-1)=((gk-1:Nat):Int) by omega];exact (Int.ofNat_tdiv (gk-1) 2).symm
   have bC:((p:Int)==(gk:Int))=false:=by simp;omega
   have mJ:1<=gk:=by omega
   by_cases af:cZ (ay O' gk) (ay O' p)
   ·have q_:=Ni (i:=gk) (j:=p) bI (by omega) (by omega) true (by simpa using af)
    have HS:Hid (sF (ay (jP O' p gk)) n p):=hd (by
     rw [NH (by rw [HL.out];omega) (by rw [HL.out];omega)];have:=HV.out.step (by omega) vl (by rw [hp.out];exact af)
     rwa [hp.out]at this)
    have vo:∀W:World,Below wr.heap.size wr W->Calls prog 306 #[.slice a n c,.int .i64 (p:Int),.int .i64 (gk:Int)] W fun e w'=>e=.returned (.tuple #[])/\Row w' 249 2 a n c (wC (jP O' p gk))/\Mod (fun k=>ae a=some k) W w':=fun W hb=>Nj (bI.below hb) (by omega) vl
    have HK:Hid (∀W:World,Below wr.heap.size wr W->W.cell? ⟨b,1,none⟩=some (.slice a n c)):=hd (fun W hb=>by rw [hb.cell (p:=⟨b,1,none⟩) HO.out.hp.blt];exact iy);have HF:Hid (∀w1 w2:World,Below wr.heap.size wr w1->Row w2 249 2 a n c (wC (jP O' p gk))->Mod (fun k=>ae a=some k) w1 w2->jW w b m a c O w2 (jP O' p gk)):=hd (fun w1 w2 hb hR hM=>(HO.out.below hb).swap hR hM HL.out.symm (by omega) vl);clear Hl af HV HO bI
    go_wp2_with (first
     |(go_at_call 305;refine q_.mono ?_;rintro e1 w1 ⟨rfl,b1⟩;have kT:=HK.out w1 b1)
     |(go_at_call 306;refine (vo _ b1).mono ?_;rintro e2 w2 ⟨rfl,r2,m2⟩))
    go_roundg p
    case measure=>exact hpk
    case rel=>exact ⟨rfl,by omega,hd ⟨_,HF.out _ _ b1 r2 m2,HS.out⟩⟩
   ·have q_:=Ni (i:=gk) (j:=p) bI (by omega) (by omega) false (by simpa using af);have HE:Hid (∃O',jW w b m a c O wr O'/\gF (ay O') n):=hd ⟨O',HO.out,HV.out.done (by rw [hp.out];exact af)⟩;clear Hl af HO HV;go_wp2_with (first|(go_at_call 305;refine q_.mono ?_;rintro e1 w1 ⟨rfl,b1⟩));go_end0;obtain ⟨O2,h1,h2⟩:=HE.out;exact ⟨rfl,O2,h1.below b1,h2⟩
theorem sw_far{f:Nat->Th}(hi:i<n)(hj:j<n)(hc:n<=c):sw f i j c=f c:=by unfold sw;rw [aaf (by omega),aaf (by omega)]
theorem down_any{nn:Nat}(h:fU w b m a c O)(hn:O.length=nn)(hle:n<=nn)(hU:qY (ay O) n 0)(Cw:nn<=8796093022208):
 Calls prog 213 #[.iface 251 (.pointer (some ⟨b,1,none⟩)),.int .i64 0,.int .i64 (n:Int)] w fun e w'=>(∃B,e=.returned (.bool B))/\∃O',jW w b m a c O w' O'/\gF (ay O') n/\∀k,n<=k->ay O' k=ay O k:=by
 have HH:=hd h;have HU:=hd hU;have HN:=hd hn;clear h hU hn;have mL:∀W:World,W.cell? ⟨b,1,none⟩=some (.slice a nn c)->Sem.run prog (method 490 251 (.pointer (some ⟨b,1,none⟩)) "Less") W=.ok (305,.slice a nn c) W:=fun W h=>VW h
 have mS:∀W:World,W.cell? ⟨b,1,none⟩=some (.slice a nn c)->Sem.run prog (method 490 251 (.pointer (some ⟨b,1,none⟩)) "Swap") W=.ok (306,.slice a nn c) W:=fun W h=>OH h
 have eL:=VX;have eS:=OI;go_enter func213,ntmps213;go_wp2_with fail;go_loopg [7,8,9,10] n (fun k v7 _ _ _ wr=>∃i:Nat,v7=.int .i64 (i:Int)/\i+k=n/\Hid (∃O',jW w b m a c O wr O'/\qY (ay O') n i/\∀k,n<=k->ay O' k=ay O k))
 case atStart=>exact ⟨0,rfl,by omega,hd ⟨O,jW.refl HH.out,HU.out,fun _ _=>rfl⟩⟩
 case round=>
  obtain ⟨i,rfl,dh,HR⟩:=hrel;obtain ⟨O',vm,Hk,xk⟩:=HR.out;have yD:O'.length=nn:=by rw [vm.len,HN.out]
  have iy:=vm.hp.c1;have bI:=vm.hp.row;rw [yD]at iy bI;have HO:=hd vm;have HV:=hd Hk;have HX:=hd xk;have HL:=hd yD;clear vm Hk yD HR HU HH xk;have HK:Hid (∀W:World,Below wr.heap.size wr W->W.cell? ⟨b,1,none⟩=some (.slice a nn c)):=hd (fun W hb=>by rw [hb.cell (p:=⟨b,1,none⟩) HO.out.hp.blt];exact iy);obtain ⟨j1,qn⟩:∃j1:Nat,Hid (2*i+1=j1):=⟨_,rfl⟩;have e1:(2:Int)*(i:Int)+1=(j1:Int):=by have:=qn.out;omega
  have jr:i<=n:=by omega
  by_cases h1:j1<n
  ·obtain ⟨j2,sG⟩:∃j2:Nat,Hid (j1+1=j2):=⟨_,rfl⟩;have e2:(j1:Int)+1=(j2:Int):=by have:=sG.out;omega
   have jY:(j1:Int)<(n:Int):=by omega
   have hj2b:j2<=n:=by have:=sG.out;omega
   have Qh:i<j1:=by have:=qn.out;omega
   have xl:par j1=i:=(Jl (by omega)).2 (.inl qn.out.symm);have sH:par j2=i:=(Jl (by omega)).2 (.inr (by have:=qn.out;have:=sG.out;omega));have yE:∀x,0<x->x<n->par x=i->x=j1\/x=j2:=fun x h0 _ hx=>by
    have:=(Jl h0).1 hx;have:=qn.out;have:=sG.out;omega
   have vr:Hid (∀j,j<n->i<n->∀W:World,Below wr.heap.size wr W->Calls prog 306 #[.slice a nn c,.int .i64 (i:Int),.int .i64 (j:Int)] W fun e w'=>e=.returned (.tuple #[])/\Row w' 249 2 a nn c (wC (jP O' i j))/\Mod (fun k=>ae a=some k) W w'):=hd (fun j hj hi W hb=>Nj (bI.below hb) (by omega) (by omega));have rf:Hid (∀x y,x<n->y<n->∀B:Bool,B=decide (cZ (ay O' x) (ay O' y))->∀W:World,Below wr.heap.size wr W->Calls prog 305 #[.slice a nn c,.int .i64 (x:Int),.int .i64 (y:Int)] W fun e w'=>e=.returned (.bool B)/\Below W.heap.size W w'):=hd (fun x y hx hy B hB W hb=>Ni (bI.below hb) (by omega) (by omega) B hB);have mg:Hid (∀j,(∀x,0<x->x<n->par x=i->¬cZ (ay O' x) (ay O' j))->¬cZ (ay O' j) (ay O' i)->∀W:World,Below wr.heap.size wr W->∃O',jW w b m a c O W O'/\gF (ay O') n/\∀k,n<=k->ay O' k=ay O k):=hd (fun j hm hl W hb=>⟨O',HO.out.below hb,HV.out.done hm hl,HX.out⟩)
   have yF:Hid (∀j,0<j->j<n->par j=i->(∀x,0<x->x<n->par x=i->¬cZ (ay O' x) (ay O' j))->cZ (ay O' j) (ay O' i)->∀w1 w2:World,Below wr.heap.size wr w1->Row w2 249 2 a nn c (wC (jP O' i j))->Mod (fun k=>ae a=some k) w1 w2->∃O',jW w b m a c O w2 O'/\qY (ay O') n j/\∀k,n<=k->ay O' k=ay O k):=hd (fun j h0 hj hp hm hl w1 w2 hb hR hM=>by
    have iI:=pP h0;rw [hp]at iI;refine ⟨jP O' i j,(HO.out.below hb).swap hR hM HL.out.symm (by omega) (by omega), ?_,fun k hk=> ?_⟩
    ·rw [NH (by rw [HL.out];omega) (by rw [HL.out];omega)];exact HV.out.step h0 hj hp hm hl
    ·rw [NH (by rw [HL.out];omega) (by rw [HL.out];omega),sw_far (n:=n) (by omega) hj hk]
     exact HX.out k hk)
   have mM:i<n:=by omega
   clear HO HV HX bI HL;by_cases h2:j2<n
   ·have oM:(j2:Int)<(n:Int):=by omega
    by_cases ub:cZ (ay O' j2) (ay O' j1)
    ·have Hm:=rf.out j2 j1 h2 h1 true (by simpa using ub);have fQ:∀x,0<x->x<n->par x=i->¬cZ (ay O' x) (ay O' j2):=fun x h0 hx hp=>by
      rcases yE x h0 hx hp with rfl|rfl
      ·exact MQ ub
      ·exact FH _
     have xm:=hd fQ;clear fQ;by_cases hl:cZ (ay O' j2) (ay O' i)
     ·have vu:=rf.out j2 i h2 mM true (by simpa using hl);have vo:=vr.out j2 h2 mM;have HG:=hd (yF.out j2 (by omega) h2 sH (xm.out) hl);clear hl vr rf mg yF yE xl sH qn sG ub;have bz:=fk wr;go_upto_region 8 with(go_at_call 305;refine (Hm _ bz).mono ?_;rintro e1 w1 ⟨rfl,b1⟩;have kT:=HK.out w1 b1)
      go_wp2_with (first
       |(go_at_call 305;refine (vu _ b1).mono ?_;rintro e2 w2 ⟨rfl,b2⟩;replace b2:=Below.trans b1 (b2.mono b1.size);have Hn:=HK.out w2 b2)
       |(go_at_call 306;refine (vo _ b2).mono ?_;rintro e3 w3 ⟨rfl,r3,m3⟩))
      go_roundg (n-j2)
      case measure=>omega
      case rel=>exact ⟨j2,rfl,by omega,hd (HG.out _ _ b2 r3 m3)⟩
     ·have vu:=rf.out j2 i h2 mM false (by simpa using hl);have HE:=hd (mg.out j2 (xm.out) hl);clear hl vr rf mg yF yE xl sH qn sG ub;have bz:=fk wr;go_upto_region 8 with(go_at_call 305;refine (Hm _ bz).mono ?_;rintro e1 w1 ⟨rfl,b1⟩;have kT:=HK.out w1 b1)
      go_wp2_with (first
       |(go_at_call 305;refine (vu _ b1).mono ?_;rintro e2 w2 ⟨rfl,b2⟩;replace b2:=Below.trans b1 (b2.mono b1.size);have Hn:=HK.out w2 b2))
      go_ret;exact ⟨⟨_,rfl⟩,HE.out _ b2⟩
    ·have Hm:=rf.out j2 j1 h2 h1 false (by simpa using ub);have fQ:∀x,0<x->x<n->par x=i->¬cZ (ay O' x) (ay O' j1):=fun x h0 hx hp=>by
      rcases yE x h0 hx hp with rfl|rfl
      ·exact FH _
      ·exact ub
     have xm:=hd fQ;clear fQ;by_cases hl:cZ (ay O' j1) (ay O' i)
     ·have vu:=rf.out j1 i h1 mM true (by simpa using hl);have vo:=vr.out j1 h1 mM;have HG:=hd (yF.out j1 (by omega) h1 xl (xm.out) hl);clear hl vr rf mg yF yE xl sH qn sG ub;have bz:=fk wr;go_upto_region 8 with(go_at_call 305;refine (Hm _ bz).mono ?_;rintro e1 w1 ⟨rfl,b1⟩;have kT:=HK.out w1 b1)
      go_wp2_with (first
       |(go_at_call 305;refine (vu _ b1).mono ?_;rintro e2 w2 ⟨rfl,b2⟩;replace b2:=Below.trans b1 (b2.mono b1.size);have Hn:=HK.out w2 b2)
       |(go_at_call 306;refine (vo _ b2).mono ?_;rintro e3 w3 ⟨rfl,r3,m3⟩))
      go_roundg (n-j1)
      case measure=>omega
      case rel=>exact ⟨j1,rfl,by omega,hd (HG.out _ _ b2 r3 m3)⟩
     ·have vu:=rf.out j1 i h1 mM false (by simpa using hl);have HE:=hd (mg.out j1 (xm.out) hl);clear hl vr rf mg yF yE xl sH qn sG ub;have bz:=fk wr;go_upto_region 8 with(go_at_call 305;refine (Hm _ bz).mono ?_;rintro e1 w1 ⟨rfl,b1⟩;have kT:=HK.out w1 b1)
      go_wp2_with (first
       |(go_at_call 305;refine (vu _ b1).mono ?_;rintro e2 w2 ⟨rfl,b2⟩;replace b2:=Below.trans b1 (b2.mono b1.size);have Hn:=HK.out w2 b2))
      go_ret;exact ⟨⟨_,rfl⟩,HE.out _ b2⟩
   ·have oM:decide ((j2:Int)<(n:Int))=false:=by simp;omega
    have fQ:∀x,0<x->x<n->par x=i->¬cZ (ay O' x) (ay O' j1):=fun x h0 hx hp=>by
     rcases yE x h0 hx hp with rfl|rfl
     ·exact FH _
     ·omega
    have xm:=hd fQ;clear fQ;by_cases hl:cZ (ay O' j1) (ay O' i)
    ·have vu:=rf.out j1 i h1 mM true (by simpa using hl);have vo:=vr.out j1 h1 mM;have HG:=hd (yF.out j1 (by omega) h1 xl (xm.out) hl);clear hl vr rf mg yF yE xl sH qn sG;have bz:=fk wr
     go_wp2_with (first
      |(go_at_call 305;refine (vu _ bz).mono ?_;rintro e2 w2 ⟨rfl,b2⟩;replace b2:=Below.trans bz (b2.mono bz.size);have Hn:=HK.out w2 b2)
      |(go_at_call 306;refine (vo _ b2).mono ?_;rintro e3 w3 ⟨rfl,r3,m3⟩))
     go_roundg (n-j1)
     case measure=>omega
     case rel=>exact ⟨j1,rfl,by omega,hd (HG.out _ _ b2 r3 m3)⟩
    ·have vu:=rf.out j1 i h1 mM false (by simpa using hl);have HE:=hd (mg.out j1 (xm.out) hl);clear hl vr rf mg yF yE xl sH qn sG;have bz:=fk wr
     go_wp2_with (first
      |(go_at_call 305;refine (vu _ bz).mono ?_;rintro e2 w2 ⟨rfl,b2⟩;replace b2:=Below.trans bz (b2.mono bz.size);have Hn:=HK.out w2 b2))
     go_ret;exact ⟨⟨_,rfl⟩,HE.out _ b2⟩
  ·have jY:(n:Int)<=(j1:Int):=by omega
   have HE:Hid (∃O',jW w b m a c O wr O'/\gF (ay O') n/\∀k,n<=k->ay O' k=ay O k):=hd ⟨O',HO.out,HV.out.OE (by have:=qn.out;omega),HX.out⟩;clear HO HV HX;go_wp2_with fail;go_ret;exact ⟨⟨_,rfl⟩,HE.out⟩
structure jE(w:World)(b m:Nat)(a:Option Addr)(w':World)(a':Option Addr)(c':Nat)(O':List Th):Prop where
 hp:fU w' b m a' c' O'
 mod:Mod (fun k=>k=b\/ae a=some k) w w'
 new:∀k,ae a'=some k->ae a=some k\/w.heap.size<=k
theorem jE.trans{a2:Option Addr}{c1 c2:Nat}(h:jE w b m a w1 a1 c1 O1)(k:jE w1 b m a1 w2 a2 c2 O2):jE w b m a w2 a2 c2 O2:=
 ⟨k.hp,h.mod.trans k.mod (fun i hi=>by
  rcases hi with rfl|hi
  ·exact .inl (.inl rfl)
  ·rcases h.new i hi with h1|h1
   ·exact .inl (.inr h1)
   ·exact .inr h1),fun i hi=>by
  rcases k.new i hi with h1|h1
  ·exact h.new i h1
  ·exact .inr (by have:=h.mod.size;omega)⟩
theorem jE.below{c1:Nat}(h:jE w b m a w1 a1 c1 O1)(hb:Below w1.heap.size w1 w2):jE w b m a w2 a1 c1 O1:=⟨h.hp.below hb,h.mod.after hb,h.new⟩
theorem jE.ofBelow{c1:Nat}(hb:Below w.heap.size w w1)(h:jE w1 b m a w2 a1 c1 O1):jE w b m a w2 a1 c1 O1:=⟨h.hp,(Mod.aS _ hb).trans h.mod (fun _ h=> .inl h),fun k hk=>by
 rcases h.new k hk with h1|h1
 ·exact .inl h1
 ·exact .inr (by have:=hb.size;omega)⟩
theorem jW.to{w':World}(h:jW w b m a c O w' O'):jE w b m a w' a c O':=⟨h.hp,h.mod.mono (fun _ _ h=> .inr h),fun _ h=> .inl h⟩
theorem assertT(t1 t2:Int)(w:World):Sem.run prog (Instr.typeAssert (.iface 249 (.agg #[.int .i64 t1,.int .i64 t2])) 20 249 true) w=.ok (.tuple #[.agg #[.int .i64 t1,.int .i64 t2],.bool true]) w:=by kernel_rfl
theorem tpush_any(h:fU w b m a c O)(hn:O.length=n)(Cw:n<8796093022208)(t:Th):
 Calls prog 308 #[.pointer (some ⟨b,1,none⟩),.iface 249 (.agg #[.int .i64 t.1,.int .i64 t.2])] w fun e w'=>e=.returned (.tuple #[])/\∃a' c',jE w b m a w' a' c' (O++[t]):=by
 obtain ⟨t1,t2⟩:=t;have hcell:Hid (∀W:World,Below w.heap.size w W->W.cell? ⟨b,1,none⟩=some (.slice a n c)):=hd (fun W hb=>by rw [hb.cell (p:=⟨b,1,none⟩) h.blt,<-hn];exact h.c1);have HH:=hd h;have HN:=hd hn;clear h hn;simp only
 go_enter func308,ntmps308;have AF:=assertT t1 t2 w;go_upto_region 2 with fail;obtain ⟨w1,aR⟩:=Haa (w.alloc (.cells #[.int .i64 t1,.int .i64 t2] 249));have jO:Hid (Below w.heap.size w w1):=hd (by rw [<-aR.out];exact aA w _);have x0:w1.cell? ⟨w.heap.size,0,none⟩=some (.int .i64 t1):=by rw [<-aR.out];simp
 have x1:w1.cell? ⟨w.heap.size,1,none⟩=some (.int .i64 t2):=by rw [<-aR.out];simp
 have cD:w.heap.size<w1.heap.size:=by rw [<-aR.out];simp
 rw [aR.out];obtain ⟨G,hG⟩:=Haa w.heap.size;rw [hG.out]at x0 x1 cD⊢;have G9:=hcell.out w1 jO.out;have yG:=HH.out.below jO.out;have X8:(n+1)*16<=140737488355328:=by omega
 obtain ⟨a',c',w8,aO,R8,M8,B8⟩:=mX (w:=w1.drew) (T:=235) (e:=249) (z:=.agg #[.int .i64 0,.int .i64 0]) (size:=2) (bytes:=16) underlying235 VV rfl (yG.below ((aak _ w1).drew)).row (by rw [HN.out];unfold maxLen;omega) (by rw [HN.out];exact X8) [.int .i64 t1,.int .i64 t2] rfl (by simp [Value.oneCell']);rw [HN.out]at aO R8;have aO:Hid (∀ty,(Builtin.append_ #[235,235] ty #[.slice a n c,.slice (some ⟨w1.heap.size,0,none⟩) 1 1]).run prog (w1.alloc (.cells #[.int .i64 t1,.int .i64 t2] 249)).drew=.ok (.slice a' (n+1) c') w8):=hd aO;have qo:¬ae a=some b:=fun e=>HH.out.ne b e rfl
 have z1:w8.cell? ⟨b,1,none⟩=some (.slice a n c):=by
  rw [M8.cell (p:=⟨b,1,none⟩) yG.blt qo];exact G9
 have z2:w8.frozen? ⟨b,1,none⟩=false:=by
  rw [M8.frozen (p:=⟨b,1,none⟩) yG.blt qo];exact yG.free 1
 have y1:(w1.alloc (.cells #[.int .i64 t1,.int .i64 t2] 249)).cell? ⟨b,1,none⟩=some (.slice a n c):=((aA w1 _).cell (p:=⟨b,1,none⟩) yG.blt).trans G9
 have HE:Hid (jE w b m a (w8.setCell ⟨b,1,none⟩ (.slice a' (n+1) c')) a' c' (O++[(t1,t2)])):=hd (jE.ofBelow jO.out (by
  have Ai:w8.heap[b]?=some (.cells #[.map (some m),.slice a O.length c] 237 (0,0)):=by rw [M8.block b yG.blt qo];exact yG.obj
  have ko:∀k,ae a'=some k->k≠b:=fun k hk=>by
   rcases B8 k hk with h1|h1
   ·exact HH.out.ne k h1
   ·have:=yG.blt;have:w1.drew.heap.size=w1.heap.size:=rfl;omega
  refine ⟨fU.lay Ai (by rw [Ca];exact R8) (by simp [HN.out]) ko, ?_,B8⟩
  exact ((Mod.aS _ ((aak _ w1).drew)).trans M8 (fun k hk=> .inl (.inr hk))).setCell (.inl (.inl rfl)) _))
 clear R8 M8 B8 yG qo X8 AF;go_region_law ((refine rN (by rfl) _ _ _ (by rfl) _ _ _ _ (by rfl) (by rfl) aO.out ?_));all_goals go_end0
 all_goals exact ⟨rfl,a',c',HE.out⟩
theorem hpush_any(h:fU w b m a c O)(hn:O.length=n)(Cw:n<8796093022208)(hH:gF (ay O) n)(t:Th):
 Calls prog 142 #[.iface 251 (.pointer (some ⟨b,1,none⟩)),.iface 249 (.agg #[.int .i64 t.1,.int .i64 t.2])] w fun e w'=>e=.returned (.tuple #[])/\∃a' c' O',jE w b m a w' a' c' O'/\gF (ay O') (n+1)/\O'.length=n+1/\∀x,x∈O'↔x∈O\/x=t:=by
 have hp:=tpush_any h hn Cw t;have HN:=hd hn;have HH:=hd hH;clear h hn hH;have mP:=mPush ⟨b,1,none⟩;have eP:=ePush;have eL:=WT;go_enter func142,ntmps142;go_upto_region 1 with(go_at_call 308;refine hp.mono ?_;rintro e1 w1 ⟨rfl,a1,c1,hT⟩);clear hp;have hlen:(O++[t]).length=n+1:=by simp [HN.out]
 have hU:=up_any (n:=n+1) (j0:=n) hT.hp hlen (by omega) (sF.push HH.out (fun i hi=>tAt_app_left (by rw [HN.out];exact hi))) (by omega);have iy:=hT.hp.c1;rw [hlen]at iy;have mL:=WS iy;have hle:=@Ug a1 (n+1) c1 w1;have HT:=hd hT;clear hT hlen
 go_wp2_with (first
  |(go_at_call 304;refine hle.mono ?_;rintro e2 w2 ⟨rfl,rfl⟩)
  |(go_at_call 176;refine hU.mono ?_;rintro e3 w3 ⟨rfl,O',hO,hh⟩))
 go_end0;refine ⟨rfl,a1,c1,O',HT.out.trans hO.to,hh,by rw [hO.len];simp [HN.out],fun x=>(hO.mem x).trans (by simp)⟩
theorem tpop_any(h:fU w b m a c O)(hn:O.length=n+1)(Cw:n<8796093022208):
 Calls prog 307 #[.pointer (some ⟨b,1,none⟩)] w fun e w'=>(∃v,e=.returned v)/\jE w b m a w' a c (O.take n):=by
 obtain ⟨g,rfl,x0,x1⟩:=zS h.row n (by omega);have iP:n+1<=c:=by rw [<-hn];exact h.row.zR
 have iy:=h.c1;rw [hn]at iy;have qm:=h.free 1
 have HE:Hid (∀W:World,Below w.heap.size w W->jE w b m (some ⟨g,0,none⟩) (W.setCell ⟨b,1,none⟩ (.slice (some ⟨g,0,none⟩) n c)) (some ⟨g,0,none⟩) c (O.take n)):=hd (fun W hb=>by
  have hW:=h.below hb;refine ⟨fU.lay hW.obj ?_ (by simp [hn]) hW.ne,(Mod.aS _ hb).setCell (.inl (.inl rfl)) _,fun _ h=> .inl h⟩;have:=hW.row.cut n c (by omega) (by omega) (aag _) (fun e=>by cases e)
  rwa [NF]at this)
 have gK:=h.lt g rfl;have cQ:=h.blt;have qX:=h.ne g rfl;clear h hn;generalize (ay O n).1=t1 at*
 generalize (ay O n).2=t2 at*
 go_enter func307,ntmps307;go_wp2_with fail;go_ret;exact ⟨⟨_,rfl⟩,(HE.out w (fk w)).below (aA _ _)⟩
theorem pop_mem(hl:O.length=n+1)(h1:O1=jP O 0 n)(hm:∀x,x∈O2↔x∈O1)(iK:O2.length=n+1)(hfar:ay O2 n=ay O1 n)(x:Th):x∈O->x∈O2.take n\/x=ay O 0:=by
 intro hx;have h2:x∈O2:=by rw [hm,h1,NI (by omega) (by omega)];exact hx
 obtain ⟨i,hi,e⟩:=JM h2;by_cases jr:i<n
 ·left;rw [<-e,<-Nh jr];exact zN (by simp;omega)
 ·right;have:i=n:=by omega
  subst this;rw [<-e,hfar,h1,Cc (by omega) (by omega)];unfold sw;rw [aah rfl]
theorem hpop_any(h:fU w b m a c O)(hn:O.length=n+1)(Cw:n<8796093022208)(hH:gF (ay O) (n+1)):
 Calls prog 181 #[.iface 251 (.pointer (some ⟨b,1,none⟩))] w fun e w'=>(∃v,e=.returned v)/\∃O',jE w b m a w' a c O'/\gF (ay O') n/\O'.length=n/\(∀x∈O',x∈O)/\∀x∈O,x∈O'\/x=ay O 0:=by
 have iy:=h.c1;rw [hn]at iy;have bI:=h.row;rw [hn]at bI;have mL:=WS iy;have mS:=OH iy;have hle:=@Ug a (n+1) c w;have vo:=Nj (i:=0) (j:=n) bI (by omega) (by omega);have HN:=hd hn;have HH:=hd h;have HP:=hd hH;clear h hn hH bI;have eL:=WT;have eS:=OI;have eP:=ePop;have mP:=mPop ⟨b,1,none⟩;go_enter func181,ntmps181
 go_upto_region 3 with(first
  |(go_at_call 304;refine hle.mono ?_;rintro e2 w ⟨rfl,rfl⟩)
  |(go_at_call 306;refine vo.mono ?_;rintro e3 w3 ⟨rfl,r3,m3⟩))
 have h3:jW w b m a c O w3 (jP O 0 n):=(jW.refl HH.out).swap r3 m3 HN.out.symm (by omega) (by omega);have AO:(jP O 0 n).length=n+1:=by rw [DS,HN.out]
 have X9:qY (ay (jP O 0 n)) n 0:=qY.pop HP.out (fun i h0 hi=>by
  rw [Cc (by rw [HN.out];omega) (by rw [HN.out];omega)];unfold sw
  rw [aaf (by omega),aaf (by omega)])
 have hD:=down_any h3.hp AO (n:=n) (by omega) X9 (by omega);have H3:=hd h3;clear h3 X9 r3 m3 mS hle vo mL iy;go_upto_region 4 with(first|(go_at_call 213;refine hD.mono ?_;rintro e4 w4 ⟨⟨B,rfl⟩,O4,h4,X_,Ya⟩));have AQ:O4.length=n+1:=by rw [h4.len,AO]
 have hT:=tpop_any h4.hp AQ Cw
 have HE:Hid (∀w5,jE w4 b m a w5 a c (O4.take n)->∃O',jE w b m a w5 a c O'/\gF (ay O') n/\O'.length=n/\(∀x∈O',x∈O)/\∀x∈O,x∈O'\/x=ay O 0):=hd (fun w5 h5=>by
  refine ⟨O4.take n,(H3.out.to.trans h4.to).trans h5,fun k h0 hk=> ?_,by simp [AQ],fun x hx=> ?_,pop_mem HN.out rfl h4.mem AQ (Ya n (aag _))⟩
  ·have hp:=pP h0;rw [Nh hk,Nh (by omega)];exact X_ k h0 hk
  ·have:=List.mem_of_mem_take hx;rw [h4.mem,NI (by rw [HN.out];omega) (by rw [HN.out];omega)]at this
   exact this)
 clear h4 X_ Ya AQ hD H3 AO;go_wp2_with (first|(go_at_call 307;refine hT.mono ?_;rintro e5 w5 ⟨⟨v,rfl⟩,h5⟩));go_ret;exact ⟨⟨_,rfl⟩,HE.out _ h5⟩
open Go.RowKit Go.Sort Go.Shelf Go.Maps
attribute[local go_sem] Oper.semAt_some
theorem ng:Keyed prog 3:=int_keyed aaY
def ic(x:Int):Prop:=-9223372036854775808<=x/\x<=9223372036854775807
variable{s t:Th}{id i:Int}{L:List Th}{D:DataW Unit}
theorem vX{x:Int}(h:ic x):keyOf prog 3 (.int .i64 x)=some (.int .i64 x):=keyOf_int_mk aaY (WalkArith.wf_i64 h)
def oV(t:Th):DataW Unit:=.agg [.lit (.int .i64 t.1),.lit (.int .i64 t.2)]
def CV(t:Th):Value:=.agg #[.int .i64 t.1,.int .i64 t.2]
def oA:Value->Option (DataW Unit×List MemPlace)
 | .agg cs=>match cs.toList with
  |[.int .i64 a,.int .i64 b]=>some (oV (a,b),[])
  |_=>none
 |_=>none
theorem FJ(t:Th):oA (CV t)=some (oV t,[]):=rfl
theorem Je{v:Value}{z:DataW Unit×List MemPlace}(h:oA v=some z):∃t,v=CV t/\z=(oV t,[]):=by
 unfold oA at h;split at h
 ·rename_i cs
  split at h
  ·rename_i a b e
   refine ⟨(a,b), ?_,(aau h).symm⟩;unfold CV;congr 1;exact Array.toList_inj.1 e
  ·cases h
 ·cases h
theorem JN(h:oV s=oV t):s=t:=by
 unfold oV at h;injection h with h;injection h with h1 h2;injection h2 with h2 _;injection h1 with h1;injection h1 with _ h1;injection h2 with h2;injection h2 with _ h2;exact Prod.ext h1 h2
theorem thV_inj(h:CV s=CV t):s=t:=by
 have:=FJ s;rw [h,FJ]at this;exact (JN (Prod.mk.inj (aau this)).1).symm
structure MapOf(val:Th->DataW Unit)(D:DataW Unit)(L:List Th):Prop where
 tidy:Tidy D
 size:Maps.size D=L.length
 at':∀t∈L,∀zd,D.atKey (.int .i64 t.2) zd=val t
 has:∀id,Maps.has D (.int .i64 id)=isSet id L
theorem MapOf.nil(val:Th->DataW Unit):MapOf val (.map []) []:=⟨tidy_empty,rfl,fun _ h=>absurd h aaF,fun _=>rfl⟩
theorem TB:isSet i (jq id L)=(isSet i L&&i !=id):=by
 rw [Bool.eq_iff_iff,Bool.and_eq_true,rR,rR];constructor
 ·rintro ⟨t,ht,rfl⟩;have:=pK.1 ht;exact ⟨⟨t,this.1,rfl⟩,by simpa using this.2⟩
 ·rintro ⟨⟨t,ht,rfl⟩,h2⟩;exact ⟨t,pK.2 ⟨ht,by simpa using h2⟩,rfl⟩
theorem isSet_set{due:Int}:isSet i (mF id due L)=(isSet i L||i==id):=by
 have:isSet i (mF id due L)=(isSet i (jq id L)||(id==i)):=by simp [isSet,mF]
 rw [this,TB];by_cases h:i=id
 ·subst h;simp
 ·have h1:(i !=id)=true:=bne_iff_ne.2 h;have h2:(i==id)=false:=abh.2 h;have h3:(id==i)=false:=abh.2 (fun e=>h e.symm);rw [h1,h2,h3,Bool.and_true]
theorem NK(h:gA L)(id due:Int):(mF id due L).length=if isSet id L=true then L.length else L.length+1:=by
 unfold mF;rw [aal,List.length_singleton]
 cases hs:isSet id L with
 |true=>rw [NJ h hs];rfl
 |false=>rw [Uf hs];rfl
theorem MapOf.put{val:Th->DataW Unit}(h:MapOf val D L)(hG:gA L)(id due:Int):MapOf val (D.put (.int .i64 id) (val (due,id))) (mF id due L):=by
 refine ⟨h.tidy.put (k:=.int .i64 id) trivial _, ?_,fun t ht zd=> ?_,fun i=> ?_⟩
 ·rw [size_put (k:=.int .i64 id) h.tidy,NK hG,h.has,h.size]
 ·unfold mF at ht;rcases aaX.1 ht with h1|h1
  ·have:=pK.1 h1;rw [atKey_put_other (by simpa using this.2)];exact h.at' t this.1 zd
  ·simp at h1;subst h1;exact atKey_put_same (k:=.int .i64 id) h.tidy.isMap trivial _ _
 ·rw [isSet_set];by_cases e:i=id
  ·subst e;rw [has_put_same (k:=.int .i64 i) h.tidy.isMap trivial];simp
  ·rw [has_put_other (by simpa using e),h.has];simp [e]
theorem MapOf.del{val:Th->DataW Unit}(h:MapOf val D L)(hG:gA L)(id:Int):MapOf val (D.del (.int .i64 id)) (jq id L):=by
 refine ⟨h.tidy.del _, ?_,fun t ht zd=> ?_,fun i=> ?_⟩
 ·have hs:=size_del (k:=.int .i64 id) h.tidy;rw [h.has,h.size]at hs
  cases e:isSet id L with
  |true=>
   rw [e]at hs;have:=NJ hG e;simp at hs;omega
  |false=>
   rw [e]at hs;rw [Uf e];simpa using hs
 ·have:=pK.1 ht;rw [atKey_del_other (by simpa using this.2)];exact h.at' t this.1 zd
 ·rw [TB];by_cases e:i=id
  ·subst e;rw [has_del_same];simp
  ·rw [has_del_other (by simpa using e),h.has];simp [e]
end Go.Proofs.YthopnfbjiifhhaaGreatDoor.aZ
