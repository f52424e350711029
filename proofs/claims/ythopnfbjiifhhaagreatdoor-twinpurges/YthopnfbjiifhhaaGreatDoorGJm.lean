/- Locks as lists: who holds each, who waits for it. -/
import Derived.Test.YthopnfbjiifhhaaGreatDoorGXLW1
import Derived.Deep.RegionHeld3
import Derived.Deep.DeepCutAuto
set_option maxHeartbeats 2000000
set_option maxRecDepth 100000
namespace Go.Proofs.YthopnfbjiifhhaaGreatDoor.aV
open Go.Proofs.Tryz
abbrev Qs:=List (List Int)
def aW(qs:Qs)(i:Nat):List Int:=qs.getD i []
def jo(os:List Int)(i:Nat):Int:=os.getD i (-1)
def ic(x:Int):Prop:=-9223372036854775808<=x/\x<=9223372036854775807
def wt(qs:Qs)(p:Int):Option Nat:=qs.findIdx? (fun q=>decide (p∈q))
def h_(qs:Qs)(p:Int):Option Int:=(wt qs p).map (fun(i:Nat)=>(i:Int))
def qF(os:List Int)(p:Int)(k:Nat):List Int:=((List.range k).filter (fun i=>decide (0<=p)&&decide (jo os i=p))).map (fun(i:Nat)=>(i:Int))
def hold(os:List Int)(p:Int):List Int:=qF os p os.length
def total(qs:Qs):Nat:=(qs.map List.length).sum
theorem holdTo_succ(os:List Int)(p:Int)(k:Nat):qF os p (k+1)=qF os p k++(if 0<=p/\jo os k=p then[(k:Int)]else[]):=by
 unfold qF;rw [abC,List.filter_append,abd];congr 1;by_cases h:0<=p/\jo os k=p
 ·rw [aah h,abt,aah (by simp [h.1,h.2])];rfl
 ·rw [aaf h,abt,aaf (by simpa using h)];rfl
theorem S9(os:List Int)(p:Int)(k:Nat):(qF os p k).length<=k:=by
 unfold qF;rw [aa3];exact aai (List.length_filter_le _ _) (by simp)
variable{os q:List Int}{p x:Int}{k i:Nat}{qs:Qs}
theorem mem_holdTo:x∈qF os p k↔∃i:Nat,x=(i:Int)/\i<k/\0<=p/\jo os i=p:=by
 unfold qF;simp only [List.mem_map,List.mem_filter,List.mem_range,Bool.and_eq_true,decide_eq_true_eq];constructor
 ·rintro ⟨i,⟨h1,h2,h3⟩,rfl⟩;exact ⟨i,rfl,h1,h2,h3⟩
 ·rintro ⟨i,rfl,h1,h2,h3⟩;exact ⟨i,⟨h1,h2,h3⟩,rfl⟩
structure fw(os:List Int)(qs:Qs):Prop where
 n:qs.length=os.length
 le:os.length<=8
 own:∀o∈os,-1<=o/\o<=9223372036854775807
 qW:∀i p,p∈aW qs i->0<=p/\p<=9223372036854775807
 nd:∀i,(aW qs i).Nodup
 once:∀i j p,p∈aW qs i->p∈aW qs j->i=j
theorem DY(h:p∈aW qs i):i<qs.length:=by
 rcases aaU i qs.length with h1|h1
 ·exact h1
 ·unfold aW at h;rw [aac,aas h1]at h;simp at h
theorem F6{j:Nat}:aW (qs.set i q) j=if i=j/\i<qs.length then q else aW qs j:=by
 unfold aW;rw [aac,aac,aaP];by_cases h:i=j
 ·subst h;by_cases h2:i<qs.length
  ·simp [h2]
  ·simp [h2]
 ·simp [h]
theorem NG(h:i<os.length):jo os i∈os:=by
 unfold jo;rw [aac,aad h];exact aaG h
theorem UN(h:os.length<=i):jo os i=-1:=by
 unfold jo;rw [aac,aas h];rfl
theorem fw.oFit(h:fw os qs)(i:Nat):-1<=jo os i/\jo os i<=9223372036854775807:=by
 rcases aaU i os.length with h1|h1
 ·exact h.own _ (NG h1)
 ·rw [UN h1];omega
theorem JK(hO:∀i j p,p∈aW qs i->p∈aW qs j->i=j):wt qs p=some i↔p∈aW qs i:=by
 unfold wt;rw [List.findIdx?_eq_some_iff_getElem];constructor
 ·rintro ⟨h1,h2,-⟩;unfold aW;rw [aac,aad h1];simpa using h2
 ·intro h;have hl:=DY h;refine ⟨hl, ?_,fun j hj=> ?_⟩
  ·unfold aW at h;rw [aac,aad hl]at h;simpa using h
  ·have jG:j<qs.length:=by omega
   intro hc;have:p∈aW qs j:=by
    unfold aW;rw [aac,aad jG];simpa using hc
   have:=hO j i p this h;omega
theorem JL:wt qs p=none↔∀i,p∉aW qs i:=by
 unfold wt;rw [List.findIdx?_eq_none_iff];constructor
 ·intro h i hi;have hl:=DY hi;have:=h (qs[i]) (aaG hl);unfold aW at hi;rw [aac,aad hl]at hi;simp at this hi;exact this hi
 ·intro h q hq;obtain ⟨i,hi,rfl⟩:=aaZ hq;have:=h i;unfold aW at this;rw [aac,aad hi]at this;simpa using this
theorem DP(hO:∀i j p,p∈aW qs i->p∈aW qs j->i=j)(h:p∈aW qs i):h_ qs p=some (i:Int):=by
 unfold h_;rw [(JK hO).2 h];rfl
theorem FQ(h:∀i,p∉aW qs i):h_ qs p=none:=by
 unfold h_;rw [JL.2 h];rfl
theorem Ng(i:Nat):(aW qs i).length<=total qs:=by
 unfold total aW
 induction qs generalizing i with
 |nil=>simp
 |cons q r ih=>
  cases i with
  |zero=>simp
  |succ i=>simp at*;have:=ih i;omega
theorem Tx(h:i<qs.length)(q:List Int):total (qs.set i q)+(aW qs i).length=total qs+q.length:=by
 unfold total aW
 induction qs generalizing i with
 |nil=>simp at h
 |cons x r ih=>
  cases i with
  |zero=>simp;omega
  |succ i=>
   simp at h;have:=ih h;simp at*
   omega
theorem total_app(qs:Qs)(q:List Int):total (qs++[q])=total qs+q.length:=by
 unfold total;simp
def WQ(n:Nat)(lock p:Int):Int:=if lock<0\/(n:Int)<=lock then 2 else if p<0 then 1 else 0
def kJ(os:List Int)(qs:Qs)(i:Nat):List Int:=os.set i ((aW qs i).headD (-1))
def pT(qs:Qs)(i:Nat):Qs:=qs.set i (aW qs i).tail
def rV(qs:Qs)(i:Nat)(p:Int):Qs:=qs.set i ((aW qs i).filter (fun x=>decide (x≠p)))
def nz(qs:Qs)(p:Int):Qs:=match wt qs p with
 |some i=>rV qs i p
 |none=>qs
def oH:List Int->List Int->Qs->List (Int×Int)->List Int×Qs×List (Int×Int)
 |[],os,qs,out=>(os,qs,out)
 |i::r,os,qs,out=>oH r (kJ os qs i.toNat) (pT qs i.toNat) (out++[(i,jo (kJ os qs i.toNat) i.toNat)])
def qM(os:List Int)(qs:Qs)(p:Int):List Int×Qs×List (Int×Int):=oH (hold os p) os (nz qs p) []
theorem Sy(h:(x::q).Nodup):(x::q).filter (fun y=>decide (y≠x))=q:=by
 rw [abt,aaf (by simp)];rw [List.filter_eq_self];intro y hy;have:=(List.nodup_cons.1 h).1;simp only [ne_eq,decide_not,Bool.not_eq_true',decide_eq_false_iff_not];intro e;subst e;exact this hy
theorem S_(h:q.Nodup)(hk:k<q.length)(e:q.getD k 0=p):q.filter (fun y=>decide (y≠p))=q.take k++q.drop (k+1):=by
 induction q generalizing k with
 |nil=>simp at hk
 |cons x r ih=>
  cases k with
  |zero=>
   simp at e;subst e;rw [Sy h];simp
  |succ k=>
   simp only [List.length_cons]at hk;have hn:=List.nodup_cons.1 h;simp only [List.getD_cons_succ]at e;have hm:p∈r:=by
    rw [<-e,aac,aad (by omega)];exact aaG _
   have hx:x≠p:=fun e'=>hn.1 (e'▸hm)
   rw [abt,aah (by simpa using hx),ih hn.2 (by omega) e];simp
theorem handO_len(os:List Int)(qs:Qs)(i:Nat):(kJ os qs i).length=os.length:=by simp [kJ]
theorem fw.wG(h:fw os qs)(hq:q.Sublist (aW qs i)):fw os (qs.set i q):=by
 refine ⟨by rw [aaz];exact h.n,h.le,h.own,fun j p hp=> ?_,fun j=> ?_,fun j k p hj hk=> ?_⟩
 ·rw [F6]at hp;split at hp
  ·exact h.qW i p (hq.mem hp)
  ·exact h.qW j p hp
 ·rw [F6];split
  ·exact (h.nd i).sublist hq
  ·exact h.nd j
 ·have e:∀j,p∈aW (qs.set i q) j->p∈aW qs j:=fun j hj=>by
   rw [F6]at hj;split at hj
   ·rename_i hc;rw [<-hc.1];exact hq.mem hj
   ·exact hj
  exact h.once j k p (e j hj) (e k hk)
theorem fw.tS(h:fw os qs){v:Int}(hv:-1<=v/\v<=9223372036854775807):fw (os.set i v) qs:=
 ⟨by rw [aaz];exact h.n,by rw [aaz];exact h.le,fun o ho=>by
  rcases List.mem_or_eq_of_mem_set ho with h1|h1
  ·exact h.own o h1
  ·rw [h1];exact hv,h.qW,h.nd,h.once⟩
theorem headD_fit(h:fw os qs)(i:Nat):-1<=(aW qs i).headD (-1)/\(aW qs i).headD (-1)<=9223372036854775807:=by
 cases hq:aW qs i with
 |nil=>simp
 |cons x r=>
  have:=h.qW i x (by rw [hq];exact aaA);simp;omega
theorem fw.hand(h:fw os qs)(i:Nat):fw (kJ os qs i) (pT qs i):=(h.tS (headD_fit h i)).wG (List.tail_sublist _)
theorem fw.leave(h:fw os qs)(i:Nat)(p:Int):fw os (rV qs i p):=h.wG List.filter_sublist
theorem fw.away(h:fw os qs)(p:Int):fw os (nz qs p):=by
 unfold nz;split
 ·exact h.leave _ _
 ·exact h
theorem Ty(hq:q.Sublist (aW qs i)):total (qs.set i q)<=total qs:=by
 rcases aaU i qs.length with h|h
 ·have:=Tx h q;have:=hq.length_le;omega
 ·rw [List.set_eq_of_length_le h];exact aag _
theorem total_away(qs:Qs)(p:Int):total (nz qs p)<=total qs:=by
 unfold nz;split
 ·exact Ty List.filter_sublist
 ·exact aag _
theorem wtI_leave(h:fw os qs)(hp:p∈aW qs i)(x:Int):h_ (rV qs i p) x=if x=p then none else h_ qs x:=by
 have h2:=h.leave i p;have hl:=DY hp;have em:∀j,x∈aW (rV qs i p) j↔x∈aW qs j/\x≠p:=fun j=>by
  unfold rV;rw [F6];split
  ·rename_i hc
   rw [<-hc.1,List.mem_filter];simp
  ·rename_i hc
   constructor
   ·intro hx;refine ⟨hx,fun e=>hc ⟨?_,hl⟩⟩;subst e;exact h.once i j x hp hx
   ·exact fun hx=>hx.1
 by_cases e:x=p
 ·rw [aah e];exact FQ (fun j hj=>((em j).1 hj).2 e)
 ·rw [aaf e]
  cases hw:wt qs x with
  |none=>
   have:=JL.1 hw;rw [FQ this];exact FQ (fun j hj=>this j ((em j).1 hj).1)
  |some j=>
   have:=(JK h.once).1 hw;rw [DP h.once this];exact DP h2.once ((em j).2 ⟨this,e⟩)
theorem hand_leave(h:fw os qs){r:List Int}(hq:aW qs i=x::r):rV qs i x=pT qs i:=by
 unfold rV pT;have:=h.nd i;rw [hq]at this⊢;rw [Sy this];rfl
section
variable{os:List Int} {qs:Qs} {p lock:Int} {i:Nat}
end
def Ah(qs:Qs)(owner:Int)(d:List Int)(p:Int):Bool:=(wt qs p).isSome||decide (p∈d)||decide (p<0)||decide (p=owner)
def kR(qs:Qs)(owner:Int):List Int->List Int->Bool
 |_,[]=>true
 |d,p::r=>if Ah qs owner d p=true then false else kR qs owner (d++[p]) r
def uN(qs:Qs)(owner:Int)(q:List Int):Bool:=if owner< -1\/(owner=-1/\0<q.length)then false else kR qs owner [] q
def qN:Qs->List Int->Qs->Bool
 |pre,o::os,q::qs=>if uN pre o q=true then qN (pre++[q]) os qs else false
 |_,_,_=>true
variable{qs:Qs}{q os d:List Int}{k j:Nat}{p o:Int}
theorem addQ_drop{owner:Int}(hk:k<q.length):kR qs owner (q.take k) (q.drop k)=if Ah qs owner (q.take k) (q.getD k 0)=true then false else kR qs owner (q.take (k+1)) (q.drop (k+1)):=by
 rw [aa2 hk,kR];have e:q.getD k 0=q[k]:=by rw [aac,aad hk];rfl
 rw [e,aaD hk]
theorem layF_drop(hk:k<os.length)(hl:os.length=qs.length):qN (qs.take k) (os.drop k) (qs.drop k)=if uN (qs.take k) (jo os k) (aW qs k)=true then qN (qs.take (k+1)) (os.drop (k+1)) (qs.drop (k+1))else false:=by
 have bk:k<qs.length:=by omega
 rw [aa2 hk,aa2 bk,qN];have e:jo os k=os[k]:=by unfold jo;rw [aac,aad hk];rfl
 have e2:aW qs k=qs[k]:=by unfold aW;rw [aac,aad bk];rfl
 rw [e,e2,aaD bk]
theorem layF_end{pre:Qs}(hk:os.length<=k):qN pre (os.drop k) (qs.drop k)=true:=by
 rw [abc hk];unfold qN
 cases qs.drop k<;>rfl
def xS(qs:Qs)(owner:Int)(d:List Int):Prop:=d.Nodup/\∀p∈d,0<=p/\p≠owner/\∀i,p∉aW qs i
theorem xS.nil(qs:Qs)(owner:Int):xS qs owner []:=⟨List.nodup_nil,fun _ h=>absurd h aaF⟩
theorem badP_no{owner:Int}(h:Ah qs owner d p=false):wt qs p=none/\p∉d/\0<=p/\p≠owner:=by
 unfold Ah at h;simp only [Bool.or_eq_false_iff,decide_eq_false_iff_not,Option.isSome_eq_false_iff,Option.isNone_iff_eq_none]at h;exact ⟨h.1.1.1,h.1.1.2,by omega,h.2⟩
theorem xS.push{owner:Int}(h:xS qs owner d)(hb:Ah qs owner d p=false):xS qs owner (d++[p]):=by
 obtain ⟨h1,h2,h3,h4⟩:=badP_no hb;refine ⟨?_,fun x hx=> ?_⟩
 ·rw [List.nodup_append];refine ⟨h.1,by simp,fun a ha b hb e=> ?_⟩;simp at hb;subst hb;subst e;exact h2 ha
 ·rcases aaX.1 hx with h5|h5
  ·exact h.2 x h5
  ·simp at h5;subst h5;exact ⟨h3,h4,JL.1 h1⟩
theorem UO:aW (qs++[q]) j=if j<qs.length then aW qs j else if j=qs.length then q else[]:=by
 unfold aW;rw [aac,aac];split
 ·rename_i h;rw [aaE h]
 ·rename_i h
  rw [aan (by omega)];split
  ·rename_i h2;subst h2;simp
  ·rename_i h2
   rw [aas (by simp;omega)];rfl
theorem zM{x:Int}:x∈aW (qs++[q]) j↔x∈aW qs j\/(x∈q/\j=qs.length):=by
 rw [UO];constructor
 ·intro h;split at h
  ·exact .inl h
  ·split at h
   ·exact .inr ⟨h,by assumption⟩
   ·cases h
 ·rintro (h|⟨h1,h2⟩)
  ·rw [aah (DY h)];exact h
  ·rw [aaf (by omega),aah h2];exact h1
theorem fw.app(h:fw os qs)(h8:os.length<8)(ho:-1<=o/\o<=9223372036854775807)(hq:xS qs o q)(hf:∀p∈q,p<=9223372036854775807):fw (os++[o]) (qs++[q]):=by
 refine ⟨by simp [h.n],by simp;omega,fun x hx=> ?_,fun i p hp=> ?_,fun i=> ?_,fun i j p hi hj=> ?_⟩
 ·rcases aaX.1 hx with h1|h1
  ·exact h.own x h1
  ·simp at h1;rw [h1];exact ho
 ·rcases zM.1 hp with h1|h1
  ·exact h.qW i p h1
  ·exact ⟨(hq.2 p h1.1).1,hf p h1.1⟩
 ·rw [UO];split
  ·exact h.nd i
  ·split
   ·exact hq.1
   ·exact List.nodup_nil
 ·rcases zM.1 hi with h1|h1<;>rcases zM.1 hj with h2|h2
  ·exact h.once i j p h1 h2
  ·exact absurd h1 ((hq.2 p h2.1).2.2 i)
  ·exact absurd h2 ((hq.2 p h1.1).2.2 j)
  ·rw [h1.2,h2.2]
theorem wtI_app(h:fw os qs)(hq:xS qs o q)(x:Int):h_ (qs++[q]) x=if x∈q then some (qs.length:Int)else h_ qs x:=by
 have hO:∀i j p,p∈aW (qs++[q]) i->p∈aW (qs++[q]) j->i=j:=fun i j p hi hj=>by
  rcases zM.1 hi with h1|h1<;>rcases zM.1 hj with h2|h2
  ·exact h.once i j p h1 h2
  ·exact absurd h1 ((hq.2 p h2.1).2.2 i)
  ·exact absurd h2 ((hq.2 p h1.1).2.2 j)
  ·rw [h1.2,h2.2]
 by_cases e:x∈q
 ·rw [aah e];exact DP hO (zM.2 (.inr ⟨e,rfl⟩))
 ·rw [aaf e]
  cases hw:wt qs x with
  |none=>
   have:=JL.1 hw;rw [FQ this];refine FQ (fun j hj=> ?_);rcases zM.1 hj with h1|h1
   ·exact this j h1
   ·exact e h1.1
  |some j=>
   have:=(JK h.once).1 hw;rw [DP h.once this];exact DP hO (zM.2 (.inl this))
theorem fw.nil:fw [] []:=⟨rfl,by simp,fun _ h=>absurd h aaF,fun i p h=>by simp [aW]at h,fun i=>by simp [aW],fun i j p h=>by simp [aW]at h⟩
open Go.RowKit
def iC(l:List Int):List Value:=l.map (.int .i64 ·)
def wP(x:Int×Int):List Value:=[.int .i64 x.1,.int .i64 x.2]
def wC(l:List (Int×Int)):List Value:=l.flatMap wP
theorem oo(l:List Int):(iC l).length=l.length*1:=by simp [iC]
theorem tI(l:List (Int×Int)):(wC l).length=l.length*2:=by
 induction l with
 |nil=>rfl
 |cons x r ih=>simp only [wC,List.flatMap_cons,List.length_append,List.length_cons]at*;rw [ih,show(wP x).length=2 from rfl];omega
theorem xR(l m:List Int):iC (l++m)=iC l++iC m:=by simp [iC]
theorem Ca(l m:List (Int×Int)):wC (l++m)=wC l++wC m:=by simp [wC]
theorem rW(l:List Int)(i:Nat)(h:i<l.length)(d:Int):(iC l)[i]?=some (.int .i64 (l.getD i d)):=by
 simp [iC,List.getD_eq_getElem?_getD,List.getElem?_eq_getElem h]
theorem v_:∀(l:List (Int×Int)) (i:Nat),i<l.length->(wC l)[i*2]?=some (.int .i64 (l.getD i (0,0)).1)/\(wC l)[i*2+1]?=some (.int .i64 (l.getD i (0,0)).2)
 |[],i,h=>absurd h (aao i)
 |t::ts,0,_=>⟨rfl,rfl⟩
 |t::ts,i+1,h=>by
  have ih:=v_ ts i (by simpa using h);simp only [wC,List.flatMap_cons,List.getD_cons_succ]at*
  rw [aan (by rw [show(wP t).length=2 from rfl];omega),aan (by rw [show(wP t).length=2 from rfl];omega),show(wP t).length=2 from rfl,show(i+1)*2-2=i*2 by omega,show(i+1)*2+1-2=i*2+1 by omega];exact ih
theorem tH(l:List Int):∀u∈iC l,u.oneCell'=true:=by
 intro u hu;obtain ⟨x,_,rfl⟩:=List.mem_map.mp hu;rfl
theorem JJ(l:List Int)(k:Nat):(iC l).drop k=iC (l.drop k):=by simp [iC]
theorem F5(l:List Int)(k:Nat):(iC l).take k=iC (l.take k):=by simp [iC,List.map_take]
theorem iC_set(l:List Int)(k:Nat)(v:Int):(iC l).set k (.int .i64 v)=iC (l.set k v):=by simp [iC,List.map_set]
variable{w:World}{P:Program}{e:TypeId}{z:Value}{size bytes:Nat}{a:Act}{ops:Array Oper}{o:Oper}
theorem aU{b i:Nat}{cs:Array Value}{t:TypeId}{fr:Nat×Nat}(h:w.heap[b]?=some (.cells cs t fr))(u:Value):(w.setCell ⟨b,i,none⟩ u).heap[b]?=some (.cells (cs.setIfInBounds i u) t fr):=by
 simp [World.setCell,Array.getElem?_modify,h]
theorem info_parts(h:(P.info? e).map (fun i=>(i.zero,i.size,i.bytes))=some (some z,size,bytes)):∃i,P.info? e=some i/\i.zero=some z/\i.size=size/\i.bytes=bytes:=by
 cases hi:P.info? e with
 |none=>rw [hi]at h;cases h
 |some i=>
  rw [hi]at h;simp only [Option.map_some,Option.some.injEq,Prod.mk.injEq]at h;exact ⟨i,rfl,h.1,h.2.1,h.2.2⟩
theorem below_drewN{B:Nat}{a:World}(h:Below B a w)(n:Nat):Below B a (w.drewN n):=⟨h.os,h.tape,h.output,h.size,h.block⟩
theorem tF(t e:TypeId)(z:Value)(size bytes:Nat)(ht:prog.underlying t=some (.slice e))(hi:(prog.info? e).map (fun i=>(i.zero,i.size,i.bytes))=some (some z,size,bytes))(n:Nat)(hb:bytes*n<=281474976710656)(h63:n<=maxLen)(W:World):
 (Instr.makeSlice t (.int .i64 (n:Int)) (.int .i64 (n:Int))).run prog W=.ok (.slice (some ⟨W.heap.size,0,none⟩) n n) (W.alloc (.cells (madeCells z.cells (n*size)) e)):=by
 obtain ⟨i,h1,h2,h3,h4⟩:=info_parts hi;subst h3 h4;have xX:(n:Int)<=9223372036854775807:=by
  have h:=h63;simp [maxLen]at h;omega
 have eW:(i.bytes:Int)*(n:Int)<=281474976710656:=by
  have h:((i.bytes*n:Nat):Int)<=281474976710656:=by omega
  rwa [Int.natCast_mul]at h
 have hr:=run_make (P:=prog) W t e i z ht h1 h2 .i64 .i64 n n (by omega) (abe _) eW xX;simp only [Int.toNat_natCast]at hr;exact hr
theorem mX{T:TypeId}(hu:prog.underlying T=some (.slice e))(kI:(prog.info? e).map (fun i=>(i.zero,i.size,i.bytes))=some (some z,size,bytes))(gI:z.cells.size=size)
 {w:World}{a:Option Addr}{n c:Nat}{xs:List Value}(hR:Row w e size a n c xs)(hn:n<maxLen)(pX:(n+1)*bytes<=140737488355328)(us:List Value)(yq:us.length=size)(h1:∀u∈us,u.oneCell'=true):
 ∃a' c' w',(∀ty,(Builtin.append_ #[T,T] ty #[.slice a n c,.slice (some ⟨w.heap.size,0,none⟩) 1 1]).run prog (w.alloc (.cells us.toArray e))=.ok (.slice a' (n+1) c') w')/\
  Row w' e size a' (n+1) c' (xs++us)/\Mod (fun k=>ae a=some k) w w'/\(∀k,ae a'=some k->ae a=some k\/w.heap.size<=k):=by
 obtain ⟨i,k1,k2,k3,k4⟩:=info_parts kI;have hb:=aA w (.cells us.toArray e);have hh:=aae w (.cells us.toArray e);have hs:Src prog size T (.slice (some ⟨w.heap.size,0,none⟩) 1 1) 1 us (w.alloc (.cells us.toArray e)):=by
  refine Src.ofSlice _ hu _ _ _ _ (by omega) (fun j u hj=> ?_) h1;rw [kO,aaa _ _ _ _ _ _ hh,aaH];simpa using hj
 obtain ⟨a',c',w',m1,m2,m3,m4,_⟩:=mD (P:=prog) _ T e i _ size bytes hu k1 k2 k3 k4 gI (hR.below hb) _ 1 _ hs (by omega) pX;refine ⟨a',c',w',m1,m2,(Mod.aS _ hb).trans m3 (fun _ h=> .inl h),fun k hk=> ?_⟩;rcases m4 k hk with h|h
 ·exact .inl h
 ·exact .inr (by have:=hb.size;omega)
theorem dZ{rest:List Oper}{Q:Exit->Act->World->Prop}(lM:o.guard=none)(s x:Operand)(t:TypeId)
 (ho:o.op=.call {callee:=.builtin .append,args:=#[s,x],argTypes:=#[t,t]})(v vx v':Value)(w':World)(hs:a.eval s=v)(hx:a.eval x=vx)
 (fK:∀ty,(Builtin.append_ #[t,t] ty #[v,vx]).run P w=.ok v' w')(h:wpList P ops Q rest (a.put o.dst v') w'):wpList P ops Q (o::rest) a w:=
 wpList_plain lM fun K hK=>by
  unfold Oper.wp execOp
  simp only [ho,resolve,invoke,builtin,Sem.run_bind,Sem.run_pure,Result.andThen_ok,List.map_toArray,List.map_cons,List.map_nil,hs,hx,fK];exact hK _ _ h
theorem rN{K:Act->World->Prop}{Q:Exit->Act->World->Prop}{E:Prop}(lM:o.guard=none)(s x:Operand)(t:TypeId)
 (ho:o.op=.call {callee:=.builtin .append,args:=#[s,x],argTypes:=#[t,t]})(v vx v':Value)(w':World)(hs:a.eval s=v)(hx:a.eval x=vx)
 (fK:∀ty,(Builtin.append_ #[t,t] ty #[v,vx]).run P w=.ok v' w')(h:K (a.put o.dst v') w'):if Region.wanted o (yielded ops a.tmps)=true then Oper.wp P o a w K Q else E:=by
 have hw:Region.wanted o (yielded ops a.tmps)=true:=by simp [Region.wanted,lM]
 rw [aah hw];unfold Oper.wp execOp;simp only [ho,resolve,invoke,builtin,Sem.run_bind,Sem.run_pure,Result.andThen_ok,List.map_toArray,List.map_cons,List.map_nil,hs,hx,fK];exact h
theorem Ck:(prog.info? 3).map (fun i=>(i.zero,i.size,i.bytes))=some (some (.int .i64 0),1,8):=by kernel_rfl
theorem VT:(prog.info? 23).map (fun i=>(i.zero,i.size,i.bytes))=some (some (.slice none 0 0),1,24):=by kernel_rfl
theorem infoG:(prog.info? 272).map (fun i=>(i.zero,i.size,i.bytes))=some (some (.agg #[.int .i64 0,.int .i64 0]),2,16):=by kernel_rfl
def Ro(w:World)(e:TypeId)(a:Option Addr)(n cap:Nat)(xs:List Value):Prop:=
 xs.length=n/\n<=cap/\cap<=maxLen/\((a=none/\cap=0)\/∃g o cur,a=some ⟨g,o,none⟩/\w.heap[g]?=some (.cells cur e (0,0))/\o+cap<=cur.size/\(cur.toList.drop o).take n=xs)
section
variable{w w':World} {e:TypeId} {a:Option Addr} {n cap:Nat} {xs:List Value}
theorem _root_.Go.Proofs.YthopnfbjiifhhaaGreatDoor.Row.ro(h:Row w e 1 a n cap xs):Ro w e a n cap xs:=by
 obtain ⟨h1,h2,h3,h4⟩:=h;rw [Nat.mul_one]at h1;refine ⟨h1,h2,h3, ?_⟩;rcases h4 with h4|⟨g,cur,h5,h6,h7,h8⟩
 ·exact .inl h4
 ·rw [Nat.mul_one]at h7 h8;exact .inr ⟨g,0,cur,h5,h6,by omega,by simpa using h8⟩
theorem Ro.rd(h:Ro w e a n cap xs):Rd w a xs:=fun j u hj=>by
 obtain ⟨h1,h2,h3,h4⟩:=h;have hl:j<xs.length:=by
  rcases aaU j xs.length with h|h
  ·exact h
  ·rw [aas h]at hj;cases hj
 rcases h4 with⟨rfl,hc⟩|⟨g,o,cur,rfl,hg,hs,ht⟩
 ·exfalso;omega
 ·refine ⟨g,o,rfl, ?_⟩;rw [aaa _ _ _ _ _ _ hg];rw [<-ht,aaO]at hj;split at hj
  ·rw [abB]at hj;simpa using hj
  ·cases hj
theorem Ro.lt(h:Ro w e a n cap xs):∀k,ae a=some k->k<w.heap.size:=fun k hk=>by
 obtain ⟨_,_,_,⟨rfl,_⟩|⟨g,o,cur,rfl,hg,_⟩⟩:=h
 ·cases hk
 ·cases hk
  exact (aab.1 hg).1
theorem Ro.kept(h:Ro w e a n cap xs)(hk:∀k,ae a=some k->w'.heap[k]?=w.heap[k]?):Ro w' e a n cap xs:=by
 obtain ⟨h1,h2,h3,⟨rfl,h4⟩|⟨g,o,cur,rfl,hg,h5⟩⟩:=h
 ·exact ⟨h1,h2,h3,.inl ⟨rfl,h4⟩⟩
 ·exact ⟨h1,h2,h3,.inr ⟨g,o,cur,rfl,by rw [hk g rfl];exact hg,h5⟩⟩
theorem Ro.mod{S:Nat->Prop}(h:Ro w e a n cap xs)(hm:Mod S w w')(hn:∀k,ae a=some k->¬S k):Ro w' e a n cap xs:=
 h.kept fun k hk=>hm.block k (h.lt k hk) (hn k hk)
theorem Ro.below(h:Ro w e a n cap xs)(hm:Below w.heap.size w w'):Ro w' e a n cap xs:=h.kept fun k hk=>hm.block k (h.lt k hk)
theorem Ro.len(h:Ro w e a n cap xs):xs.length=n:=h.1
theorem Ro.zR(h:Ro w e a n cap xs):n<=cap:=h.2.1
theorem Ro.ahead(h:Ro w e a n cap xs)(k:Nat)(hk:k<=n):Ro w e a k k (xs.take k):=by
 obtain ⟨h1,h2,h3,h4⟩:=h;refine ⟨by rw [aa4];omega,aag _,by omega, ?_⟩;rcases h4 with⟨rfl,hc⟩|⟨g,o,cur,rfl,hg,hs,ht⟩
 ·exact .inl ⟨rfl,by omega⟩
 ·exact .inr ⟨g,o,cur,rfl,hg,by omega,by rw [<-ht,List.take_take,aaW hk]⟩
theorem Ro.behind{g o:Nat}(h:Ro w e (some ⟨g,o,none⟩) n cap xs)(k:Nat)(hk:k<=n):Ro w e (some ⟨g,o+k,none⟩) (n-k) (n-k) (xs.drop k):=by
 obtain ⟨h1,h2,h3,h4⟩:=h;refine ⟨by rw [List.length_drop];omega,aag _,by omega, ?_⟩;rcases h4 with⟨h5,hc⟩|⟨g',o',cur,h5,hg,hs,ht⟩
 ·cases h5
 ·cases h5
  refine .inr ⟨g,o+k,cur,rfl,hg,by omega, ?_⟩;rw [<-ht,List.drop_take,List.drop_drop]
theorem Ro.J7{g o:Nat}(h:Ro w e (some ⟨g,o,none⟩) n cap xs):Ro w e (some ⟨g,o,none⟩) 0 0 []:=by
 have:=h.ahead 0 (aaq _);simpa using this
end
theorem run_append_ro{P:Program}(w:World)(t e:TypeId)(i:TypeInfo)(z:Value)(bytes:Nat)(ht:P.underlying t=some (.slice e))(hi:P.info? e=some i)(hz:i.zero=some z)
 (Ci:i.size=1)(pX:i.bytes=bytes)(gI:z.cells.size=1)
 {a:Option Addr}{n cap:Nat}{xs:List Value}(hR:Ro w e a n cap xs)(x:Value)(m:Nat)(news:List Value)(hs:Src P 1 t x m news w)
 (h63:n+m<=maxLen)(B_:(n+m)*bytes<=140737488355328):
 ∃a' cap' w',(∀ty,(Builtin.append_ #[t,t] ty #[.slice a n cap,x]).run P w=.ok (.slice a' (n+m) cap') w')/\Ro w' e a' (n+m) cap' (xs++news)/\Mod (fun k=>ae a=some k) w w'/\(∀k,ae a'=some k->ae a=some k\/w.heap.size<=k):=by
 obtain ⟨h1,h2,h3,h4⟩:=hR;have gY:=hs.newsLen;rw [Nat.mul_one]at gY;have CP:=hs.cells;rw [<-Ci]at hs;by_cases vY:n+m<=cap
 ·rcases h4 with⟨rfl,h5⟩|⟨g,o,cur,rfl,hg,cD,jN⟩
  ·have wM:n=0:=by omega
   have ud:m=0:=by omega
   subst wM ud h5;refine ⟨none,0,w, ?_, ?_,Mod.refl _ _,fun k hk=>(by cases hk)⟩
   ·intro ty;simp [Builtin.append_,run_underlying ht,sizeOf,typeInfo,hi,hs.len,hs.cells]
   ·refine ⟨by simp [h1,gY],aag _,h3,.inl ⟨rfl,rfl⟩⟩
  ·have gU:o+n+news.length<=cur.size:=by omega
   have aJ:=run_storeCells_at P g (o+n) e news 0 cur w hg (by simpa using gU) hs.one;simp only [Nat.add_zero]at aJ;refine ⟨some ⟨g,o,none⟩,cap,w.setRow g (cur.toList.take (o+n)++news++cur.toList.drop (o+n+news.length)).toArray, ?_, ?_,(Mod.refl (fun k=>ae (some ⟨g,o,none⟩)=some k) w).setRow (.inl rfl) _,fun k hk=> .inl hk⟩
   ·intro ty;simp [Builtin.append_,run_underlying ht,sizeOf,typeInfo,hi,hs.len,vY,CP,kO,aJ,Ci]
   ·refine ⟨by rw [aal,h1,gY],vY,h3,.inr ⟨g,o,_,rfl,setRow_heap _ _ _ _ _ _ hg, ?_, ?_⟩⟩
    ·simp;omega
    ·have ho:(cur.toList.take o).length=o:=by rw [aa4,Array.length_toList];omega
     show((cur.toList.take (o+n)++news++cur.toList.drop (o+n+news.length)).drop o).take (n+m)=_;have AF:cur.toList.take (o+n)=cur.toList.take o++xs:=by rw [List.take_add,jN]
     rw [AF,aaQ,aaQ,List.drop_append_of_le_length (by omega),abc (by omega),List.nil_append,<-aaQ,aaS (by rw [aal];omega),aap (by rw [aal];omega)]
 ·have hold:(Builtin.firstCells i.size n (.slice a n cap)).run P w.drew=.ok xs.toArray w.drew:=by
   rcases h4 with⟨rfl,h5⟩|⟨g,o,cur,rfl,hg,cD,jN⟩
   ·have wM:n=0:=by omega
    subst wM;have:xs=[]:=aaN (by simpa using h1);subst this;exact run_firstCells_none _ _ _ _ _
   ·refine run_firstCells_some _ _ _ _ _ _ _ (by rw [Ci];omega) (fun j v hj=> ?_);rw [kO];have fV:=hj;rw [<-jN,aaO]at fV;split at fV
    ·have:=aaa w g (o+j) cur e (0,0) hg;rw [abB]at fV;simpa [this]using fV
    ·cases fV
  have hg:=fun ty=>run_append_grow_src (P:=P) w t t ty e i z ht hi hz a n cap xs hold x m news hs (by omega) (by unfold maxLen at h63;omega) (growslice_fits (by omega) (by rw [pX];exact B_))
  refine ⟨_,_,_,hg, ?_, ?_,fun k hk=> ?_⟩
  ·have iP:n+m<=grownCap w (n+m) cap e/\grownCap w (n+m) cap e<=maxLen:=by
    have h0:cap<n+m:=by omega
    have hf:=growslice_fits (bytes:=bytes) h0 (by exact B_);exact ⟨grownCap_ge w (n+m) cap e,grownCap_le_maxLen w (n+m) cap e h63⟩
   refine ⟨by rw [aal,h1,gY],iP.1,iP.2,.inr ⟨_,0,_,rfl,aae _ _, ?_, ?_⟩⟩
   ·simp [size_zeroCells,gI,h1,gY];omega
   ·simp only [Array.toList_append,List.drop_zero];rw [aaS (by simp [h1,gY]),aap (by simp [h1,gY])]
  ·exact (Mod.aS _ ((aak _ w).drew)).after (aA w.drew _)
  ·cases hk;exact .inr (aag _)
open Go.RowKit Go.Maps
abbrev Qe:=Option Addr×Nat×List Int
def sV(e:Qe):Value:=.slice e.1 e.2.2.length e.2.1
def sC(es:List Qe):List Value:=es.map sV
def gE(es:List Qe):Qs:=es.map (·.2.2)
def bN(es:List Qe)(i:Nat):Qe:=es.getD i (none,0,[])
theorem sC_len(es:List Qe):(sC es).length=es.length*1:=by simp [sC]
theorem OC(es:List Qe)(i:Nat)(h:i<es.length):(sC es)[i]?=some (sV (bN es i)):=by
 simp [sC,bN,List.getD_eq_getElem?_getD,List.getElem?_eq_getElem h]
theorem sC_app(l m:List Qe):sC (l++m)=sC l++sC m:=by simp [sC]
theorem Vo(l:List Qe)(i:Nat)(e:Qe):(sC l).set i (sV e)=sC (l.set i e):=by simp [sC,List.map_set]
theorem xO(es:List Qe):(gE es).length=es.length:=by simp [gE]
theorem qsOf_set(es:List Qe)(i:Nat)(e:Qe):gE (es.set i e)=(gE es).set i e.2.2:=by simp [gE,List.map_set]
theorem qsOf_app(l m:List Qe):gE (l++m)=gE l++gE m:=by simp [gE]
theorem Cb(es:List Qe)(i:Nat):aW (gE es) i=(bN es i).2.2:=by
 unfold aW bN gE;rw [aac,aac,aaK]
 cases es[i]?<;>rfl
variable{es:List Qe}{j:Nat}{e:Qe}{w w':World}
theorem BV{i:Nat}(hi:i<es.length):bN (es.set i e) j=if i=j then e else bN es j:=by
 unfold bN;rw [aac,aac,aaP];by_cases h:i=j
 ·subst h;simp [hi]
 ·simp [h]
theorem F7(hj:j<es.length+1):bN (es++[e]) j=if j=es.length then e else bN es j:=by
 unfold bN;rw [aac,aac];by_cases h:j=es.length
 ·subst h;simp
 ·rw [aaf h,aaE (by omega)]
def Qw(w:World)(e:Qe):Prop:=Ro w 3 e.1 e.2.2.length e.2.1 (iC e.2.2)
theorem Qw.below(h:Qw w e)(hb:Below w.heap.size w w'):Qw w' e:=Ro.below h hb
theorem Qw.mod{S:Nat->Prop}(h:Qw w e)(hm:Mod S w w')(hn:∀k,ae e.1=some k->¬S k):Qw w' e:=Ro.mod h hm hn
theorem Qw.lt(h:Qw w e):∀k,ae e.1=some k->k<w.heap.size:=Ro.lt h
theorem Qw.J7(w:World):Qw w (none,0,[]):=⟨by simp [iC],aag _,aaq _,.inl ⟨rfl,rfl⟩⟩
structure LB(w:World)(T:TypeId)(X:List Value)(b:Nat)(ao:Option Addr)(co:Nat)(aq:Option Addr)(cq:Nat)(os:List Int)(es:List Qe):Prop where
 obj:w.heap[b]?=some (.cells (.slice ao os.length co::.slice aq es.length cq::X).toArray T (0,0))
 ro:Row w 3 1 ao os.length co (iC os)
 rq:Row w 23 1 aq es.length cq (sC es)
 qs:∀i,i<es.length->Qw w (bN es i)
 bo:ae ao≠some b
 bq:ae aq≠some b
 oq:∀k,ae ao=some k->ae aq≠some k
 qb:∀i,i<es.length->∀k,ae (bN es i).1=some k->k≠b/\ae ao≠some k/\ae aq≠some k
 qq:∀i j,i<es.length->j<es.length->i≠j->∀k,ae (bN es i).1=some k->ae (bN es j).1≠some k
def lfp(b:Nat)(ao aq:Option Addr)(es:List Qe)(k:Nat):Prop:=k=b\/ae ao=some k\/ae aq=some k\/∃i,i<es.length/\ae (bN es i).1=some k
section
variable{w w':World} {T:TypeId} {X:List Value} {b:Nat} {ao:Option Addr} {co:Nat} {aq:Option Addr} {cq:Nat} {os:List Int} {es:List Qe}
theorem LB.blt(h:LB w T X b ao co aq cq os es):b<w.heap.size:=(aab.1 h.obj).1
theorem LB.lt(h:LB w T X b ao co aq cq os es):∀k,lfp b ao aq es k->k<w.heap.size:=fun k hk=>by
 rcases hk with rfl|hk|hk|⟨i,hi,hk⟩
 ·exact h.blt
 ·exact h.ro.lt k hk
 ·exact h.rq.lt k hk
 ·exact (h.qs i hi).lt k hk
theorem LB.mod{S:Nat->Prop}(h:LB w T X b ao co aq cq os es)(hm:Mod S w w')(hn:∀k,lfp b ao aq es k->¬S k):LB w' T X b ao co aq cq os es:=
 ⟨by rw [hm.block b h.blt (hn b (.inl rfl))];exact h.obj,h.ro.mod hm (fun k hk=>hn k (.inr (.inl hk))),h.rq.mod hm (fun k hk=>hn k (.inr (.inr (.inl hk)))),fun i hi=>(h.qs i hi).mod hm (fun k hk=>hn k (.inr (.inr (.inr ⟨i,hi,hk⟩)))),h.bo,h.bq,h.oq,h.qb,h.qq⟩
theorem LB.below(h:LB w T X b ao co aq cq os es)(hb:Below w.heap.size w w'):LB w' T X b ao co aq cq os es:=h.mod (Mod.aS (fun _=>False) hb) (fun _ _ h=>h)
theorem LB.c0(h:LB w T X b ao co aq cq os es):w.cell? ⟨b,0,none⟩=some (.slice ao os.length co):=by rw [aaa _ _ _ _ _ _ h.obj];simp
theorem LB.c1(h:LB w T X b ao co aq cq os es):w.cell? ⟨b,1,none⟩=some (.slice aq es.length cq):=by rw [aaa _ _ _ _ _ _ h.obj];simp
theorem LB.c2{x:Value}(h:LB w T (x::X) b ao co aq cq os es):w.cell? ⟨b,2,none⟩=some x:=by rw [aaa _ _ _ _ _ _ h.obj];simp
theorem LB.owner(h:LB w T X b ao co aq cq os es)(i:Nat)(hi:i<os.length):∃g,ao=some ⟨g,0,none⟩/\w.cell? ⟨g,i,none⟩=some (.int .i64 (jo os i)):=by
 obtain ⟨g,rfl,h0⟩:=h.ro.cell i (by omega);exact ⟨g,rfl,by rw [h0,rW os i hi (-1)];rfl⟩
theorem LB.queue(h:LB w T X b ao co aq cq os es)(i:Nat)(hi:i<es.length):∃g,aq=some ⟨g,0,none⟩/\w.cell? ⟨g,i,none⟩=some (.slice (bN es i).1 (bN es i).2.2.length (bN es i).2.1):=by
 obtain ⟨g,rfl,h0⟩:=h.rq.cell i (by omega);exact ⟨g,rfl,by rw [h0,OC es i hi];rfl⟩
theorem LB.freeO{g:Nat}(h:LB w T X b (some ⟨g,0,none⟩) co aq cq os es)(i:Nat):w.frozen? ⟨g,i,none⟩=false:=h.ro.free i g rfl
theorem LB.freeQ{g:Nat}(h:LB w T X b ao co (some ⟨g,0,none⟩) cq os es)(i:Nat):w.frozen? ⟨g,i,none⟩=false:=h.rq.free i g rfl
theorem LB.VU(h:LB w T X b ao co aq cq os es)(i:Nat):w.frozen? ⟨b,i,none⟩=false:=by simp [World.frozen?,h.obj]
theorem LB.tS{g:Nat}(h:LB w T X b (some ⟨g,0,none⟩) co aq cq os es)(i:Nat)(v:Int):LB (w.setCell ⟨g,i,none⟩ (.int .i64 v)) T X b (some ⟨g,0,none⟩) co aq cq (os.set i v) es:=by
 have hm:Mod (fun k=>k=g) w (w.setCell ⟨g,i,none⟩ (.int .i64 v)):=(Mod.refl (fun k=>k=g) w).setCell (.inl rfl) _;have hp:=h.ro.put i (.int .i64 v);rw [iC_set]at hp;refine ⟨by rw [hm.block b h.blt (fun e=>h.bo (by rw [e];rfl)),aaz];exact h.obj,by rw [aaz];exact hp,h.rq.mod hm (fun k hk e=>h.oq k (by rw [e];rfl) hk),fun j hj=>(h.qs j hj).mod hm (fun k hk e=>(h.qb j hj k hk).2.1 (by rw [e];rfl)),h.bo,h.bq,h.oq,h.qb,h.qq⟩
theorem LB.wG{g:Nat}(h:LB w T X b ao co (some ⟨g,0,none⟩) cq os es){i:Nat}(hi:i<es.length){w2:World}(hm:Mod (fun k=>ae (bN es i).1=some k) w w2){e':Qe}(hq:Qw w2 e')(hn:∀k,ae e'.1=some k->ae (bN es i).1=some k\/w.heap.size<=k):
 LB (w2.setCell ⟨g,i,none⟩ (sV e')) T X b ao co (some ⟨g,0,none⟩) cq os (es.set i e'):=by
 have cO:Mod (fun k=>k=g) w2 (w2.setCell ⟨g,i,none⟩ (sV e')):=(Mod.refl (fun k=>k=g) w2).setCell (.inl rfl) _;have qX:g≠b:=fun e=>h.bq (by rw [e];rfl)
 have gK:g<w.heap.size:=h.rq.lt g rfl;have KT:∀k,ae (bN es i).1=some k->k≠b/\ae ao≠some k/\g≠k:=fun k hk=>by
  obtain ⟨h1,h2,h3⟩:=h.qb i hi k hk;exact ⟨h1,h2,fun e=>h3 (by rw [<-e];rfl)⟩
 have hp:=(h.rq.mod hm (fun k hk e=>(KT k e).2.2 (by simpa [ae]using hk))).put i (sV e');rw [Vo]at hp;have KU:∀j,j<(es.set i e').length->bN (es.set i e') j=if i=j then e' else bN es j:=fun j _=>BV hi
 have bC:∀k,ae e'.1=some k->k≠b/\ae ao≠some k/\g≠k:=fun k hk=>by
  rcases hn k hk with h1|h1
  ·exact KT k h1
  ·exact ⟨fun e=>by have:=h.blt;omega,fun e=>by have:=h.ro.lt k e;omega,by omega⟩
 refine ⟨?_, ?_,by rw [aaz];exact hp,fun j hj=> ?_,h.bo,h.bq,h.oq,fun j hj k hk=> ?_,fun j l hj hl jG k hk=> ?_⟩
 ·rw [cO.block b (aam h.blt hm.size) (fun e=>qX e.symm),hm.block b h.blt (fun e=>(KT b e).1 rfl),aaz];exact h.obj
 ·exact (h.ro.mod hm (fun k hk e=>(KT k e).2.1 hk)).mod cO (fun k hk e=>h.oq k hk (by rw [e];rfl))
 ·rw [KU j hj];split
  ·exact hq.mod cO (fun k hk e=>(bC k hk).2.2 e.symm)
  ·rename_i iI
   rw [aaz]at hj;exact ((h.qs j hj).mod hm (fun k hk e=>h.qq i j hi hj iI k e hk)).mod cO (fun k hk e=>(h.qb j hj k hk).2.2 (by rw [e];rfl))
 ·rw [KU j hj]at hk;split at hk
  ·obtain ⟨h1,h2,h3⟩:=bC k hk;exact ⟨h1,h2,fun e=>h3 (by simpa [ae]using e)⟩
  ·rw [aaz]at hj;exact h.qb j hj k hk
 ·rw [KU j hj]at hk;rw [KU l hl];rw [aaz]at hj hl;split at hk
  ·rename_i h1
   rw [aaf (by omega)];intro e;rcases hn k hk with h2|h2
   ·exact h.qq i l hi hl (by omega) k h2 e
   ·have:=(h.qs l hl).lt k e;omega
  ·rename_i h1
   split
   ·intro e;rcases hn k e with h2|h2
    ·exact h.qq i j hi hj h1 k h2 hk
    ·have:=(h.qs j hj).lt k hk;omega
   ·exact h.qq j l hj hl jG k hk
theorem LB.OD(h:LB w T X b ao co aq cq os es){w2:World}(hm:Mod (fun k=>ae ao=some k) w w2){ku:Option Addr}{nR:Nat}{v:Int}(hR:Row w2 3 1 ku (os.length+1) nR (iC os++iC [v]))(hn:∀k,ae ku=some k->ae ao=some k\/w.heap.size<=k):
 LB (w2.setCell ⟨b,0,none⟩ (.slice ku (os.length+1) nR)) T X b ku nR aq cq (os++[v]) es:=by
 have cO:Mod (fun k=>k=b) w2 (w2.setCell ⟨b,0,none⟩ (.slice ku (os.length+1) nR)):=(Mod.refl (fun k=>k=b) w2).setCell (.inl rfl) _;have XW:ae ku≠some b:=fun e=>by
  rcases hn b e with h1|h1
  ·exact h.bo h1
  ·have:=h.blt;omega
 rw [<-xR]at hR;refine ⟨?_,by rw [aal];exact hR.mod cO (fun k hk e=>XW (by rw [<-e];exact hk)),(h.rq.mod hm (fun k hk e=>h.oq k e hk)).mod cO (fun k hk e=>h.bq (by rw [<-e];exact hk)),fun j hj=>((h.qs j hj).mod hm (fun k hk e=>(h.qb j hj k hk).2.1 e)).mod cO (fun k hk e=>(h.qb j hj k hk).1 e),XW,h.bq,fun k hk e=> ?_,fun j hj k hk=>⟨(h.qb j hj k hk).1,fun e=> ?_,(h.qb j hj k hk).2.2⟩,h.qq⟩
 ·have ho:w2.heap[b]?=some (.cells (.slice ao os.length co::.slice aq es.length cq::X).toArray T (0,0)):=by rw [hm.block b h.blt h.bo];exact h.obj
  rw [aU ho];simp
 ·rcases hn k hk with h1|h1
  ·exact h.oq k h1 e
  ·have:=h.rq.lt k e;omega
 ·rcases hn k e with h1|h1
  ·exact (h.qb j hj k hk).2.1 h1
  ·have:=(h.qs j hj).lt k hk;omega
theorem LB.D2(h:LB w T X b ao co aq cq os es){w2:World}(hm:Mod (fun k=>ae aq=some k) w w2){iw:Option Addr}{kv:Nat}{e':Qe}(hR:Row w2 23 1 iw (es.length+1) kv (sC es++sC [e']))(hn:∀k,ae iw=some k->ae aq=some k\/w.heap.size<=k)(hq:Qw w2 e')(bC:∀k,ae e'.1=some k->w.heap.size<=k/\ae iw≠some k):
 LB (w2.setCell ⟨b,1,none⟩ (.slice iw (es.length+1) kv)) T X b ao co iw kv os (es++[e']):=by
 have cO:Mod (fun k=>k=b) w2 (w2.setCell ⟨b,1,none⟩ (.slice iw (es.length+1) kv)):=(Mod.refl (fun k=>k=b) w2).setCell (.inl rfl) _;have oO:ae iw≠some b:=fun e=>by
  rcases hn b e with h1|h1
  ·exact h.bq h1
  ·have:=h.blt;omega
 have j6:(es++[e']).length=es.length+1:=by simp
 rw [<-sC_app]at hR;refine ⟨?_,(h.ro.mod hm (fun k hk e=>h.oq k hk e)).mod cO (fun k hk e=>h.bo (by rw [<-e];exact hk)),by rw [j6];exact hR.mod cO (fun k hk e=>oO (by rw [<-e];exact hk)),fun j hj=> ?_,h.bo,oO,fun k hk e=> ?_,fun j hj k hk=> ?_,fun j l hj hl jG k hk=> ?_⟩
 ·have ho:w2.heap[b]?=some (.cells (.slice ao os.length co::.slice aq es.length cq::X).toArray T (0,0)):=by rw [hm.block b h.blt h.bq];exact h.obj
  rw [aU ho,j6];simp
 ·rw [j6]at hj;rw [F7 hj];split
  ·exact hq.mod cO (fun k hk e=>by have:=bC k hk;have:=h.blt;omega)
  ·have fV:j<es.length:=by omega
   exact ((h.qs j fV).mod hm (fun k hk e=>(h.qb j fV k hk).2.2 e)).mod cO (fun k hk e=>(h.qb j fV k hk).1 e)
 ·rcases hn k e with h1|h1
  ·exact h.oq k hk h1
  ·have:=h.ro.lt k hk;omega
 ·rw [j6]at hj;rw [F7 hj]at hk;split at hk
  ·have h1:=bC k hk;exact ⟨fun e=>by have:=h.blt;omega,fun e=>by have:=h.ro.lt k e;omega,h1.2⟩
  ·have fV:j<es.length:=by omega
   obtain ⟨h1,h2,h3⟩:=h.qb j fV k hk;refine ⟨h1,h2,fun e=> ?_⟩;rcases hn k e with h4|h4
   ·exact h3 h4
   ·have:=(h.qs j fV).lt k hk;omega
 ·rw [j6]at hj hl;rw [F7 hj]at hk;rw [F7 hl];split at hk
  ·rw [aaf (by omega)];intro e;have h1:=bC k hk;have:=(h.qs l (by omega)).lt k e;omega
  ·split
   ·intro e;have h1:=bC k e;have:=(h.qs j (by omega)).lt k hk;omega
   ·exact h.qq j l (by omega) (by omega) jG k hk
end
theorem ng:Keyed prog 3:=int_keyed aaY
variable{x:Int}{W:World}{k n:Nat}{T:TypeId}{D:DataW Unit}
theorem vX(h:ic x):keyOf prog 3 (.int .i64 x)=some (.int .i64 x):=keyOf_int_mk aaY (WalkArith.wf_i64 h)
theorem zeroI(w:World):(zeroValue 3).run prog w=.ok (.int .i64 0) w:=zeroValue3 w
theorem XX(h:ic x):(Lit.int .i64 x).wf=true:=WalkArith.wf_i64 h
theorem zH{w w':World}{row:Option Nat}(h:w.grownBy w' row):Mod (fun k=>row=some k) w w':=⟨h.os,h.tape,h.output,h.size,fun k hk hn=>h.block k hk (fun e=>hn e.symm)⟩
theorem DK{W':World}{R:Value->Option (DataW Unit×List MemPlace)}(h:W.ownsMap prog T R k n D)(e:W'.heap[k]?=W.heap[k]?):W'.ownsMap prog T R k n D:=by
 unfold World.ownsMap at*
 rw [e];exact h
theorem DH{R:Value->Option (DataW Unit×List MemPlace)}(h:W.ownsMap prog T R k n D):W.ownsMap prog T R k (Maps.size D) D:=by
 obtain ⟨es,clock,hb,F,hs,hD⟩:=h;exact ⟨es,clock,hb,F,by subst hD;simp [Maps.size,length_sorted],hD⟩
structure jV(w:World)(m:Nat)(f:Int->Option Int)(n:Nat):Prop where
 ex:∃D:DataW Unit,w.ownsMap prog 3 (plainElem prog 3) m n D/\Tidy D/\Maps.size D=n/\(∀p k,f p=some k->∀zd,D.atKey (.int .i64 p) zd=.lit (.int .i64 k))/\∀p,Maps.has D (.int .i64 p)=(f p).isSome
section
variable{w w':World} {m:Nat} {f:Int->Option Int} {n:Nat}
theorem jV.lt(h:jV w m f n):m<w.heap.size:=by
 obtain ⟨D,h1,_⟩:=h.ex;exact h1.lt
theorem jV.mod{S:Nat->Prop}(h:jV w m f n)(hm:Mod S w w')(hn:¬S m):jV w' m f n:=by
 have hl:=h.lt;obtain ⟨D,h1,h2⟩:=h.ex;exact ⟨D,DK h1 (hm.block m hl hn),h2⟩
theorem jV.below(h:jV w m f n)(hb:Below w.heap.size w w'):jV w' m f n:=h.mod (Mod.aS (fun _=>False) hb) (fun h=>h)
theorem jV.congr{f':Int->Option Int}(h:jV w m f n)(e:∀p,f p=f' p):jV w m f' n:=by
 obtain ⟨D,h1,h2,h3,h4,h5⟩:=h.ex;exact ⟨D,h1,h2,h3,fun p k hp=>h4 p k (by rw [e];exact hp),fun p=>by rw [h5,e]⟩
theorem jV.new(w:World):jV (w.alloc (.map #[] 0)) w.heap.size (fun _=>none) 0:=
 ⟨.map [],World.ownsMap_made w prog 3 _,tidy_empty,rfl,fun _ _ h=>(by cases h),fun _=>rfl⟩
theorem jV.look(h:jV w m f n){p:Int}(hi:ic p):(Instr.lookup 238 (.map (some m)) (.int .i64 p) true).run prog w=.ok (.tuple #[.int .i64 ((f p).getD 0),.bool (f p).isSome]) w:=by
 obtain ⟨D,m1,m2,m3,m4,m5⟩:=h.ex;obtain ⟨v,ps,h1,h2⟩:=m1.look_ok ng underlying238 (zeroI w) (plainElem_int aaY (XX ⟨by decide,by decide⟩)) (vX hi);obtain ⟨c,rfl,e,_⟩:=plainElem_int_inv aaY h2;have e1:=(Prod.mk.inj e).1;rw [m5]at h1;rw [h1]
 cases hs:f p with
 |some k=>
  rw [m4 p k hs]at e1;rw [(Lit.int.inj (DataW.lit.inj e1)).2];rfl
 |none=>
  rw [atKey_of_not_has (by rw [m5,hs];rfl)]at e1;rw [(Lit.int.inj (DataW.lit.inj e1)).2];rfl
theorem jV.store(h:jV w m f n){p v:Int}(hi:ic p)(hv:ic v)(hn:n<6000000000000):∃w2,(Instr.mapUpdate 238 (.map (some m)) (.int .i64 p) (.int .i64 v)).run prog w=.ok () w2/\Mod (fun k=>k=m) w w2/\jV w2 m (fun x=>if x=p then some v else f x) (if(f p).isSome then n else n+1):=by
 obtain ⟨D,m1,m2,m3,m4,m5⟩:=h.ex;obtain ⟨w2,fK,o2,t2⟩:=m1.store ng underlying238 (by unfold maxLen;omega) (vX hi) (plainElem_int aaY (XX hv));have jH:Mod (fun k=>k=m) w w2:=(zH t2.grown).mono (fun k _ e=>(aau e).symm);have qj:=DH o2;have cD:Maps.size (D.put (.int .i64 p) (.lit (.int .i64 v)))=if(f p).isSome then n else n+1:=by rw [size_put (k:=.int .i64 p) m2,m5,m3]
 rw [cD]at qj;refine ⟨w2,fK,jH,⟨_,qj,m2.put (k:=.int .i64 p) trivial _,cD,fun x k hk zd=> ?_,fun x=> ?_⟩⟩
 ·by_cases e:x=p
  ·subst e;rw [aah rfl]at hk
   cases hk
   exact atKey_put_same (k:=.int .i64 x) m2.isMap trivial _ _
  ·rw [aaf e]at hk;rw [atKey_put_other (by simpa using e)];exact m4 x k hk zd
 ·by_cases e:x=p
  ·subst e;rw [has_put_same (k:=.int .i64 x) m2.isMap trivial,aah rfl];rfl
  ·rw [has_put_other (by simpa using e),m5,aaf e]
theorem jV.drop(h:jV w m f n){p:Int}(hi:ic p):∃w2,(∀ty,(Builtin.delete_ #[238,3] ty #[.map (some m),.int .i64 p]).run prog w=.ok (.tuple #[]) w2)/\Mod (fun k=>k=m) w w2/\jV w2 m (fun x=>if x=p then none else f x) (if(f p).isSome then n-1 else n):=by
 obtain ⟨D,m1,m2,m3,m4,m5⟩:=h.ex;obtain ⟨w2,fK,o2,t2⟩:=m1.drop ng underlying238 (vX hi) 0;have jH:Mod (fun k=>k=m) w w2:=(zH t2.grown).mono (fun k _ e=>(aau e).symm);have qj:=DH o2;have cD:Maps.size (D.del (.int .i64 p))=if(f p).isSome then n-1 else n:=by
  have hs:=size_del (k:=.int .i64 p) m2;rw [m5,m3]at hs
  cases hf:(f p).isSome<;>rw [hf]at hs<;>simp at hs⊢<;>omega
 rw [cD]at qj;refine ⟨w2,fun ty=>fK,jH,⟨_,qj,m2.del _,cD,fun x k hk zd=> ?_,fun x=> ?_⟩⟩
 ·by_cases e:x=p
  ·rw [aah e]at hk;cases hk
  ·rw [aaf e]at hk;rw [atKey_del_other (by simpa using e)];exact m4 x k hk zd
 ·by_cases e:x=p
  ·subst e;rw [has_del_same,aah rfl];rfl
  ·rw [has_del_other (by simpa using e),m5,aaf e]
end
structure LM(w:World)(b m:Nat)(ao:Option Addr)(co:Nat)(aq:Option Addr)(cq:Nat)(os:List Int)(es:List Qe)(f:Int->Option Int)(n:Nat):Prop where
 lb:LB w 240 [.map (some m)] b ao co aq cq os es
 map:jV w m f n
 ap:¬lfp b ao aq es m
def eY(b m:Nat)(ao aq:Option Addr)(es:List Qe)(k:Nat):Prop:=k=m\/lfp b ao aq es k
section
variable{w w':World} {b m:Nat} {ao:Option Addr} {co:Nat} {aq:Option Addr} {cq:Nat} {os:List Int} {es:List Qe} {f:Int->Option Int} {n:Nat}
theorem LM.lt(h:LM w b m ao co aq cq os es f n):∀k,eY b m ao aq es k->k<w.heap.size:=fun k hk=>by
 rcases hk with rfl|hk
 ·exact h.map.lt
 ·exact h.lb.lt k hk
theorem LM.mod{S:Nat->Prop}(h:LM w b m ao co aq cq os es f n)(hm:Mod S w w')(hn:∀k,eY b m ao aq es k->¬S k):LM w' b m ao co aq cq os es f n:=
 ⟨h.lb.mod hm (fun k hk=>hn k (.inr hk)),h.map.mod hm (hn m (.inl rfl)),h.ap⟩
theorem LM.below(h:LM w b m ao co aq cq os es f n)(hb:Below w.heap.size w w'):LM w' b m ao co aq cq os es f n:=h.mod (Mod.aS (fun _=>False) hb) (fun _ _ h=>h)
theorem LM.turn{f':Int->Option Int}{n':Nat}(h:LM w b m ao co aq cq os es f n)(hm:Mod (fun k=>k=m) w w')(hM:jV w' m f' n'):LM w' b m ao co aq cq os es f' n':=
 ⟨h.lb.mod hm (fun k hk e=>h.ap (by rw [<-e];exact hk)),hM,h.ap⟩
end
def Lk(w:World)(b:Nat)(F:Nat->Prop)(os:List Int)(qs:Qs):Prop:=fw os qs/\∃m ao co aq cq es,LM w b m ao co aq cq os es (h_ qs) (total qs)/\gE es=qs/\(∀k,eY b m ao aq es k->F k)/\∀k,F k->k<w.heap.size
section
variable{w w':World} {b:Nat} {F:Nat->Prop} {os:List Int} {qs:Qs}
theorem Lk.mod{S:Nat->Prop}(h:Lk w b F os qs)(hm:Mod S w w')(hn:∀k,F k->¬S k):Lk w' b F os qs:=by
 obtain ⟨hG,m,ao,co,aq,cq,es,h1,h2,h3,h4⟩:=h;exact ⟨hG,m,ao,co,aq,cq,es,h1.mod hm (fun k hk=>hn k (h3 k hk)),h2,h3,fun k hk=>aam (h4 k hk) hm.size⟩
theorem Lk.lt(h:Lk w b F os qs):∀k,F k->k<w.heap.size:=by
 obtain ⟨hG,m,ao,co,aq,cq,es,h1,h2,h3,h4⟩:=h;exact h4
end
variable{w:World}{b co cq n c k:Nat}{ao aq a:Option Addr}{os q:List Int}{es:List Qe}{p:Int}
theorem FX{X:List Value}(h:LB w 240 X b ao co aq cq os es)(lock p:Int):
 Calls prog 223 #[.pointer (some ⟨b,0,none⟩),.int .i64 lock,.int .i64 p] w fun e w'=>e=.returned (.int .i64 (WQ os.length lock p))/\w'=w:=by
 have c0:=h.c0;clear h;unfold WQ;generalize os.length=n at*
 by_cases h1:lock<0
 ·rw [aah (.inl h1)];go_enter func223,ntmps223
  go_wp2
  go_ret;exact ⟨rfl,rfl⟩
 ·have jY:decide (lock<0)=false:=by simpa using h1
  by_cases h2:(n:Int)<=lock
  ·rw [aah (.inr h2)];clear h1;go_enter func223,ntmps223
   go_wp2
   go_ret;exact ⟨rfl,rfl⟩
  ·have oM:decide ((n:Int)<=lock)=false:=by simpa using h2
   rw [aaf (by omega)];by_cases h3:p<0
   ·rw [aah h3];clear h1 h2;go_enter func223,ntmps223
    go_wp2
    go_ret;exact ⟨rfl,rfl⟩
   ·have vf:decide (p<0)=false:=by simpa using h3
    rw [aaf h3];clear h1 h2 h3;go_enter func223,ntmps223
    go_wp2
    go_ret;exact ⟨rfl,rfl⟩
theorem Tz{m:Nat}{f:Int->Option Int}(h:LM w b m ao co aq cq os es f n)(hp:ic p):
 Calls prog 172 #[.pointer (some ⟨b,0,none⟩),.int .i64 p] w fun e w'=>e=.returned (.tuple #[.int .i64 ((f p).getD 0),.bool (f p).isSome])/\w'=w:=by
 have c2:=h.lb.c2;have hl:=h.map.look hp;clear h;generalize (f p).getD 0=r1 at*
 generalize (f p).isSome=r2 at*
 go_enter func172,ntmps172
 go_wp2
 go_ret2;exact ⟨rfl,rfl⟩
theorem FF{xs:List Value}(hR:Rd w a xs)(hl:xs.length=n)(h1:∀u∈xs,u.oneCell'=true)(hn:n<=8796093022208):
 Calls prog 146 #[.slice a n c] w fun e w'=>∃a' c',e=.returned (.slice a' n c')/\Row w' 3 1 a' n c' xs/\Below w.heap.size w w'/\∀k,ae a'=some k->w.heap.size<=k:=by
 obtain ⟨i,k1,k2,k3,k4⟩:=info_parts Ck;obtain ⟨a',c',w',m1,m2,m3,m4,_⟩:=mD (P:=prog) w 23 3 i _ 1 8 aaV k1 k2 k3 k4 rfl (Row.nil (w:=w) (e:=3) (size:=1)) (.slice a n c) n xs (hR.src aaV (by omega) (by omega) h1) (by unfold maxLen;omega) (by omega);simp only [Nat.zero_add,List.nil_append]at m1 m2;have HB:=hd (m3.below (aag _) (fun k _ h=>by cases h));have um:=hd m2
 have HN:Hid (∀k,ae a'=some k->w.heap.size<=k):=hd (fun k hk=>by
  rcases m4 k hk with h|h
  ·cases h
  ·exact h)
 have aO:=hd m1;clear m1 m2 m3 m4 hR h1 hl;go_enter func146,ntmps146;go_wp2_with (first|(at_builtin;refine dZ rfl _ _ _ rfl _ _ _ _ rfl rfl aO.out ?_;clear aO));go_ret;exact ⟨_,_,rfl,um.out,HB.out,HN.out⟩
def wH(p:Int):List Int->Nat->Int
 |[],_=>-1
 |x::r,k=>if p=x then(k:Int)else wH p r (k+1)
theorem idxF_drop(hk:k<q.length):wH p (q.drop k) k=if p=q.getD k 0 then(k:Int)else wH p (q.drop (k+1)) (k+1):=by
 rw [aa2 hk,wH,aac,aad hk];rfl
theorem idxF_mem(h:p∈q):∃j,j<q.length/\q.getD j 0=p/\wH p q k=((k+j:Nat):Int):=by
 induction q generalizing k with
 |nil=>cases h
 |cons x r ih=>
  unfold wH;by_cases e:p=x
  ·exact ⟨0,by simp,by simp [e],by rw [aah e];simp⟩
  ·have hr:p∈r:=by
    rcases aa0.1 h with h|h
    ·exact absurd h e
    ·exact h
   obtain ⟨j,h1,h2,h3⟩:=ih (k:=k+1) hr;refine ⟨j+1,by simpa using h1,by simpa using h2, ?_⟩;rw [aaf e,h3];congr 1;omega
theorem _root_.Go.Proofs.YthopnfbjiifhhaaGreatDoor.Rd.int(h:Rd w a (iC q))(i:Nat)(hi:i<q.length):∃g o,a=some ⟨g,o,none⟩/\w.cell? ⟨g,o+i,none⟩=some (.int .i64 (q.getD i 0)):=by
 obtain ⟨g,o,h1,h2⟩:=h i _ (rW q i hi 0);exact ⟨g,o,h1,h2⟩
theorem MP(hR:Rd w a (iC q))(hN:Hid (q.length=n))(hn:n<=8796093022208)(p:Int):
 Calls prog 224 #[.slice a n c,.int .i64 p] w fun e w'=>e=.returned (.int .i64 (wH p q 0))/\w'=w:=by
 have HR:=hd hR;obtain ⟨R,r_⟩:=Haa (wH p q 0);rw [r_.out];clear hR;go_enter func224,ntmps224;go_wp2_with fail;go_loopg [5,8,9,10,11,12,13,14,15,16,18] n (fun k _ v8 _ _ _ _ _ _ _ _ _ wr=>∃i:Nat,i+k=n/\v8=.int .i64 (i:Int)/\wr=w/\Hid (wH p (q.drop i) i=R))
 case atStart=>exact ⟨0,by omega,by go_num,rfl,hd (by simpa using r_.out)⟩
 case round=>
  obtain ⟨i,dh,rfl,rfl,HE⟩:=hrel;by_cases h0:gk=0
  ·subst h0;have hi:i=n:=by omega
   obtain rfl:R=-1:=by rw [<-HE.out,abc (by rw [hN.out];omega)];rfl
   subst hi;clear r_ HE dh;go_wp2_with fail;go_ret;exact ⟨rfl,rfl⟩
  ·have af:i<n:=by omega
   obtain ⟨g,o,rfl,hc⟩:=HR.out.int i (by rw [hN.out];exact af);have HS:=idxF_drop (p:=p) (q:=q) (k:=i) (by rw [hN.out];exact af);obtain ⟨x,hx⟩:=Haa (q.getD i 0);rw [hx.out]at hc HS;by_cases he:p=x
   ·subst he;rw [aah rfl]at HS;obtain rfl:R=(i:Int):=by rw [<-HE.out,HS]
    clear HS r_ HE dh;go_wp2_with fail;go_ret;exact ⟨rfl,rfl⟩
   ·have XY:(p==x)=false:=by simpa using he
    rw [aaf he]at HS;have nS:Hid (wH p (q.drop (i+1)) (i+1)=R):=hd (by rw [<-HS];exact HE.out);clear HS HE he r_;go_wp2_with fail;go_roundg (gk-1)
    case rel=>exact ⟨i+1,by omega,by go_num,rfl,nS⟩
    case measure=>omega
theorem cut_any{e:Qe}(h:Qw w e)(hN:Hid (e.2.2.length=n))(hk:k<n)(hn:n<=8796093022208):
 Calls prog 228 #[.slice e.1 n e.2.1,.int .i64 (k:Int)] w fun r w'=>∃e':Qe,r=.returned (sV e')/\e'.2.2=e.2.2.take k++e.2.2.drop (k+1)/\Qw w' e'/\Mod (fun j=>ae e.1=some j) w w'/\∀j,ae e'.1=some j->ae e.1=some j\/w.heap.size<=j:=by
 obtain ⟨a,c,q⟩:=e;simp only at hN h⊢;have h':Ro w 3 a q.length c (iC q):=h;rw [hN.out]at h';obtain ⟨g,o,rfl,Av⟩:=h'.rd.int 0 (by rw [hN.out];omega);have iP:=h'.zR;have HR:=hd h';clear h' h Av;go_enter func228,ntmps228;go_upto_region 1 with fail;go_region;obtain ⟨A,hA⟩:=Haa (if n=k+1 then some ({block:=g,off:=o}:Addr)else some {block:=g,off:=o+(k+1)});obtain ⟨M,hM⟩:=Haa (n-(k+1));rw [hA.out,hM.out]
 have HB:Hid (Ro w 3 A M M (iC (q.drop (k+1)))):=hd (by
  by_cases e:n=k+1
  ·rw [<-hA.out,aah e,<-hM.out,abc (by rw [hN.out];omega),e,Nat.sub_self];exact HR.out.J7
  ·rw [<-hA.out,aaf e,<-hM.out,<-JJ]
   exact HR.out.behind (k+1) (by omega))
 have hblk:∀j,ae A=some j->ae (some ({block:=g,off:=o}:Addr))=some j:=fun j hj=>by
  rw [<-hA.out]at hj;split at hj
  ·exact hj
  ·exact hj
 have HBK:=hd hblk;have hlen:M+k+1=n:=by rw [<-hM.out];omega
 clear hblk hA;by_cases h0:k=0
 ·subst h0;go_wp2_with fail;go_ret;refine ⟨(A,M,q.drop 1), ?_,by simp, ?_,Mod.aS _ ((aak _ w).drew),fun j hj=> .inl (HBK.out j hj)⟩
  ·unfold sV;simp only [List.length_drop,hN.out];rw [show n-1=M by omega];rfl
  ·have:=HB.out;unfold Qw;simp only [List.length_drop,hN.out];rw [show n-1=M by omega];exact this.below ((aak _ w).drew)
 ·obtain ⟨i,k1,k2,k3,k4⟩:=info_parts Ck;have bC:((k:Int)==0)=false:=by simp;omega
  have Ha:=(HR.out.ahead k (by omega)).below ((aak _ w).drew);rw [F5]at Ha;obtain ⟨a',c',w',m1,m2,m3,m4⟩:=run_append_ro (P:=prog) w.drew 23 3 i _ 8 aaV k1 k2 k3 k4 rfl Ha (.slice A M M) M _ (((HB.out.below ((aak _ w).drew)).rd).src aaV (by rw [HB.out.len];omega) (by omega) (tH _)) (by unfold maxLen;omega) (by omega);have aO:=hd m1;rw [<-xR]at m2
  have HQ:Hid (Qw w' (a',c',q.take k++q.drop (k+1))):=hd (by
   unfold Qw;simp only [List.length_append,List.length_take,List.length_drop,hN.out];rw [show min k n+(n-(k+1))=k+M by omega]
   exact m2)
  have HM:Hid (Mod (fun j=>ae (some ({block:=g,off:=o}:Addr))=some j) w w'):=hd ((Mod.aS _ ((aak _ w).drew)).trans m3 (fun _ h=> .inl h));have CQ:Hid (∀j,ae a'=some j->ae (some ({block:=g,off:=o}:Addr))=some j\/w.heap.size<=j):=hd m4
  have HLen:Hid (∀x:Int,(q.take k++q.drop (k+1)).length=k+M):=hd (fun _=>by
   simp only [List.length_append,List.length_take,List.length_drop,hN.out]
   omega)
  clear m1 m2 m3 m4 Ha h0;go_wp2_with (first|(at_builtin;refine dZ rfl _ _ _ rfl _ _ _ _ rfl rfl aO.out ?_;clear aO));go_ret;refine ⟨(a',c',q.take k++q.drop (k+1)), ?_,rfl,HQ.out,HM.out,CQ.out⟩;unfold sV;simp only [HLen.out 0];rfl
section
variable{w w':World} {b m:Nat} {ao:Option Addr} {co:Nat} {aq:Option Addr} {cq:Nat} {os:List Int} {es:List Qe} {f:Int->Option Int} {n:Nat}
theorem UQ{i:Nat}{e':Qe}{B:Nat}(hi:i<es.length)(hn:∀j,ae e'.1=some j->ae (bN es i).1=some j\/B<=j):∀k,eY b m ao aq (es.set i e') k->eY b m ao aq es k\/B<=k:=fun k hk=>by
 rcases hk with hk|hk|hk|hk|⟨j,hj,hk⟩
 ·exact .inl (.inl hk)
 ·exact .inl (.inr (.inl hk))
 ·exact .inl (.inr (.inr (.inl hk)))
 ·exact .inl (.inr (.inr (.inr (.inl hk))))
 ·rw [aaz]at hj;rw [BV hi]at hk;split at hk
  ·rcases hn k hk with h1|h1
   ·exact .inl (.inr (.inr (.inr (.inr ⟨i,hi,h1⟩))))
   ·exact .inr h1
  ·exact .inl (.inr (.inr (.inr (.inr ⟨j,hj,hk⟩))))
theorem LM.tS{g:Nat}(h:LM w b m (some ⟨g,0,none⟩) co aq cq os es f n)(i:Nat)(v:Int):LM (w.setCell ⟨g,i,none⟩ (.int .i64 v)) b m (some ⟨g,0,none⟩) co aq cq (os.set i v) es f n:=by
 have hm:Mod (fun k=>k=g) w (w.setCell ⟨g,i,none⟩ (.int .i64 v)):=(Mod.refl (fun k=>k=g) w).setCell (.inl rfl) _;exact ⟨h.lb.tS i v,h.map.mod hm (fun e=>h.ap (.inr (.inl (by rw [e];rfl)))),h.ap⟩
theorem LM.wG{g:Nat}(h:LM w b m ao co (some ⟨g,0,none⟩) cq os es f n){i:Nat}(hi:i<es.length){w2:World}(hm:Mod (fun k=>ae (bN es i).1=some k) w w2){e':Qe}(hq:Qw w2 e')(hn:∀k,ae e'.1=some k->ae (bN es i).1=some k\/w.heap.size<=k):
 LM (w2.setCell ⟨g,i,none⟩ (sV e')) b m ao co (some ⟨g,0,none⟩) cq os (es.set i e') f n/\Mod (eY b m ao (some ⟨g,0,none⟩) es) w (w2.setCell ⟨g,i,none⟩ (sV e')):=by
 have cO:Mod (fun k=>k=g) w2 (w2.setCell ⟨g,i,none⟩ (sV e')):=(Mod.refl (fun k=>k=g) w2).setCell (.inl rfl) _;refine ⟨⟨h.lb.wG hi hm hq hn, ?_,fun e=> ?_⟩,(hm.mono (fun k _ hk=> .inr (.inr (.inr (.inr ⟨i,hi,hk⟩))))).trans cO (fun k hk=> .inl (.inr (.inr (.inr (.inl (by rw [hk];rfl))))))⟩
 ·exact (h.map.mod hm (fun e=>h.ap (.inr (.inr (.inr ⟨i,hi,e⟩))))).mod cO (fun e=>h.ap (.inr (.inr (.inl (by rw [e];rfl)))))
 ·rcases UQ (b:=b) (m:=m) (ao:=ao) (aq:=some ⟨g,0,none⟩) hi hn m (.inr e)with h1|h1
  ·rcases h1 with h1|h1
   ·rcases e with e|e|e|⟨j,hj,e⟩
    ·exact h.ap (.inl e)
    ·exact h.ap (.inr (.inl e))
    ·exact h.ap (.inr (.inr (.inl e)))
    ·rw [aaz]at hj;rw [BV hi]at e;split at e
     ·rcases hn m e with h2|h2
      ·exact h.ap (.inr (.inr (.inr ⟨i,hi,h2⟩)))
      ·have:=h.map.lt;omega
     ·exact h.ap (.inr (.inr (.inr ⟨j,hj,e⟩)))
   ·exact h.ap h1
  ·have:=h.map.lt;omega
end
def F8(w:World)(b m:Nat)(ao:Option Addr)(co:Nat)(aq:Option Addr)(cq:Nat)(os:List Int)(es:List Qe)(f:Int->Option Int)(n:Nat)(i:Nat)(p:Int)(w':World):Prop:=
 ∃e':Qe,LM w' b m ao co aq cq os (es.set i e') (fun x=>if x=p then none else f x) (if(f p).isSome then n-1 else n)/\e'.2.2=(bN es i).2.2.filter (fun x=>decide (x≠p))/\Mod (eY b m ao aq es) w w'/\∀k,eY b m ao aq (es.set i e') k->eY b m ao aq es k\/w.heap.size<=k
variable{w:World}{b m co cq n i:Nat}{ao aq:Option Addr}{os:List Int}{es:List Qe}{p:Int}{qs:Qs}
theorem Jj{f:Int->Option Int}(h:LM w b m ao co aq cq os es f n)(hi:i<es.length)(hf:ic p)(hp:p∈(bN es i).2.2)(uk:(bN es i).2.2.Nodup)(ky:(bN es i).2.2.length<=8796093022208):
 Calls prog 200 #[.pointer (some ⟨b,0,none⟩),.int .i64 (i:Int),.int .i64 p] w fun e w'=>e=.returned (.tuple #[])/\F8 w b m ao co aq cq os es f n i p w':=by
 have c1:=h.lb.c1;obtain ⟨g,rfl,hc⟩:=h.lb.queue i hi;obtain ⟨j,hj,yC,XZ⟩:=idxF_mem (k:=0) hp;have fF:Below w.heap.size w w.drew:=(aak _ w).drew;have P9:=(h.lb.qs i hi).below fF;obtain ⟨ln,hN⟩:=Haa ((bN es i).2.2.length);have hidx:=MP (c:=(bN es i).2.1) P9.rd hN (by rw [<-hN.out];exact ky) p;rw [XZ]at hidx;have hcut:=cut_any P9 hN (k:=j) (by rw [<-hN.out];exact hj) (by rw [<-hN.out];exact ky);rw [hN.out]at hc hj ky;rw [aaH]at hidx;obtain ⟨nq,vg⟩:=Haa es.length;rw [vg.out]at c1 hi;have qX:g≠b:=fun e=>h.lb.bq (by rw [e];rfl)
 have CR:=hd (S_ uk (by rw [hN.out];exact hj) yC)
 have fP:Hid (∀(wz:World) (e':Qe),Qw wz e'->Mod (fun j=>ae (bN es i).1=some j) w.drew wz->(∀j,ae e'.1=some j->ae (bN es i).1=some j\/w.drew.heap.size<=j)->
  wz.cell? ⟨b,1,none⟩=some (.slice (some ⟨g,0,none⟩) nq cq)/\(∃u,wz.cell? ⟨g,i,none⟩=some u)/\wz.frozen? ⟨g,i,none⟩=false/\
  LM (wz.setCell ⟨g,i,none⟩ (sV e')) b m ao co (some ⟨g,0,none⟩) cq os (es.set i e') f n/\Mod (eY b m ao (some ⟨g,0,none⟩) es) w (wz.setCell ⟨g,i,none⟩ (sV e'))/\∀k,eY b m ao (some ⟨g,0,none⟩) (es.set i e') k->eY b m ao (some ⟨g,0,none⟩) es k\/w.heap.size<=k):=hd (fun wz e' h1 h2 h3=>by
  have gj:i<es.length:=by rw [vg.out];exact hi
  have P_:=h.lb.qb i gj;have jZ:=h.below fF;have gK:g<w.drew.heap.size:=jZ.lb.rq.lt g rfl;obtain ⟨s1,s2⟩:=jZ.wG gj h2 h1 h3;refine ⟨?_,⟨_,(h2.cell (p:=⟨g,i,none⟩) gK (fun e=>(P_ g e).2.2 rfl)).trans hc⟩, ?_,s1,(Mod.aS _ fF).trans s2 (fun _ h=> .inl h),UQ gj h3⟩
  · rw [h2.cell (p:=⟨b,1,none⟩) jZ.lb.blt (fun e=>(P_ b e).1 rfl)];exact c1
  · rw [h2.frozen (p:=⟨g,i,none⟩) gK (fun e=>(P_ g e).2.2 rfl)]
    exact h.lb.freeQ i)
 have hcell:∀(W:World) (u:Value),(W.setCell ⟨g,i,none⟩ u).cell? ⟨b,1,none⟩=W.cell? ⟨b,1,none⟩:=fun W u=>aa1 (w:=W) (aay _ _ _ _ (fun e=>qX e.symm))
 have wY:Hid (∀W:World,LM W b m ao co (some ⟨g,0,none⟩) cq os es f n->True):=hd (fun _ _=>trivial);clear P9 XZ yC hp uk h wY;go_enter func200,ntmps200;go_upto_region 1 with fail;go_region_held3 (fun w'=>w'.cell? ⟨b,1,none⟩=some (.slice (some ⟨g,0,none⟩) nq cq)) (go_keep)
  (first
    |(go_at_call 224;refine hidx.mono ?_;rintro e3 w3 ⟨rfl,rfl⟩)
    |(go_at_call 228;refine hcut.mono ?_;rintro e3 w3 ⟨⟨a',c',q'⟩,rfl,fW,CS,AJ,Hd⟩
      obtain ⟨s1,⟨u0,s2⟩,s3,HL,HM,HF⟩:=fP.out w3 (a',c',q') CS AJ Hd;simp only [sV]at HL HM HF⊢;replace HL:=hd HL;replace HM:=hd HM;replace HF:=hd HF;replace fW:=hd fW
      clear CS AJ Hd))
 obtain ⟨w4,wO⟩:=Haa (w3.setCell ⟨g,i,none⟩ (.slice a' q'.length c'));rw [wO.out]at HL HM⊢;have c2:=HL.out.lb.c2;obtain ⟨w5,fK,Qa,hA5⟩:=HL.out.map.drop hf;have HE:Hid (F8 w b m ao co (some ⟨g,0,none⟩) cq os es f n i p w5):=hd ⟨(a',c',q'),HL.out.turn Qa hA5,fW.out.trans CR.out.symm,HM.out.trans Qa (fun k hk=> .inl (.inl hk)),HF.out⟩;clear Qa hA5 HL HM HF fW fP CR hidx hcut;go_wp2_with fail;go_end0;exact ⟨rfl,HE.out⟩
def LT(w:World)(b m:Nat)(ao:Option Addr)(co:Nat)(aq:Option Addr)(cq:Nat)(es:List Qe)(Qb:List Int)(He:Qs)(w':World):Prop:=
 ∃es',LM w' b m ao co aq cq Qb es' (h_ He) (total He)/\gE es'=He/\Mod (eY b m ao aq es) w w'/\∀k,eY b m ao aq es' k->eY b m ao aq es k\/w.heap.size<=k
theorem Ue{w':World}(hG:fw os qs)(hq:gE es=qs)(hp:p∈aW qs i)(h:F8 w b m ao co aq cq os es (h_ qs) (total qs) i p w'):LT w b m ao co aq cq es os (rV qs i p) w':=by
 obtain ⟨e',h1,h2,h3,h4⟩:=h;have hi:i<qs.length:=DY hp;have hqe:gE (es.set i e')=rV qs i p:=by
  rw [qsOf_set,h2,hq,rV,<-hq,Cb]
 refine ⟨es.set i e', ?_,hqe,h3,h4⟩;have hs:(h_ qs p).isSome=true:=by rw [DP hG.once hp];rfl
 rw [hs,aah rfl]at h1;have ht:total (rV qs i p)=total qs-1:=by
  obtain ⟨j,hj,yC⟩:=aaZ hp;have e:=S_ (hG.nd i) (p:=p) (k:=j) hj (by rw [aac,aad hj];exact yC);have:=Tx hi ((aW qs i).filter (fun x=>decide (x≠p)));rw [e]at this;unfold rV;rw [e];simp only [List.length_append,List.length_take,List.length_drop]at this;omega
 rw [ht];refine ⟨h1.lb,h1.map.congr (fun x=> ?_),h1.ap⟩;rw [wtI_leave hG hp]
theorem hand_any(h:LM w b m ao co aq cq os es (h_ qs) (total qs))(hG:fw os qs)(hq:gE es=qs)(hi:i<os.length)(ht:total qs<=8796093022208):
 Calls prog 201 #[.pointer (some ⟨b,0,none⟩),.int .i64 (i:Int)] w fun e w'=>e=.returned (.tuple #[])/\LT w b m ao co aq cq es (kJ os qs i) (pT qs i) w':=by
 have hn:=hG.n;have j6:es.length=os.length:=by rw [<-hn,<-hq,xO]
 have Ew:i<es.length:=by omega
 have c0:=h.lb.c0;have c1:=h.lb.c1;obtain ⟨go,rfl,co1⟩:=h.lb.owner i hi;obtain ⟨g,rfl,Hf⟩:=h.lb.queue i Ew;have AM:aW qs i=(bN es i).2.2:=by rw [<-hq,Cb]
 have qm:=h.lb.freeO i;have ky:(bN es i).2.2.length<=8796093022208:=by rw [<-AM];exact aai (Ng i) ht
 have jM:=(h.lb.qs i Ew).rd;have G8:∀v,Mod (eY b m (some ⟨go,0,none⟩) (some ⟨g,0,none⟩) es) w (w.setCell ⟨go,i,none⟩ v):=fun v=>(Mod.refl _ w).setCell (.inl (.inr (.inr (.inl rfl)))) v
 have HL:=hd h;have HG:=hd hG;have HQ:=hd hq;have vh:=hd AM;have Hg:=hd j6;obtain ⟨no,Hh⟩:=Haa os.length;obtain ⟨nq,vg⟩:=Haa es.length;have gZ:no=nq:=by rw [<-Hh.out,<-vg.out];exact j6.symm
 have hno8:no<=8:=by rw [<-Hh.out];exact hG.le
 subst gZ;rw [Hh.out]at c0 hi;rw [vg.out]at c1;rw [vg.out]at Ew;have Qc:=hd G8;clear h hG hq j6 hn G8 AM
 cases wZ:(bN es i).2.2 with
 |nil=>
  have HE:Hid (LT w b m (some ⟨go,0,none⟩) co (some ⟨g,0,none⟩) cq es (kJ os qs i) (pT qs i) (w.setCell ⟨go,i,none⟩ (.int .i64 (-1)))):=hd (by
   have e1:pT qs i=qs:=by
    unfold pT;rw [vh.out,wZ];show qs.set i []=qs;rw [<-HQ.out];apply aaT;intro j;rw [aaP];split
    ·rename_i e
     subst e;have hl:i<(gE es).length:=by rw [xO,vg.out];exact Ew
     rw [aah hl];have:=Cb es i;rw [wZ]at this;unfold aW at this;rw [aac,aad hl]at this;rw [aad hl];simp at this;rw [this]
    ·rfl
   have e2:kJ os qs i=os.set i (-1):=by unfold kJ;rw [vh.out,wZ];rfl
   rw [e1,e2]
   exact ⟨es,HL.out.tS i (-1),HQ.out,Qc.out _,fun k hk=> .inl hk⟩)
  rw [wZ]at Hf;simp only [List.length_nil]at Hf;clear HL HG HQ vh Hg jM ky wZ Qc Hh vg;go_enter func201,ntmps201
  go_wp2
  refine aar (abA rfl _ _ _) rfl ?_;exact ⟨rfl,HE.out⟩
 |cons x r=>
  rw [wZ]at Hf ky jM;obtain ⟨gx,ox,Qd,cx⟩:=jM.int 0 (by simp);simp only [List.getD_cons_zero,Nat.add_zero]at cx;have vk:x∈(bN es i).2.2:=by rw [wZ];exact aaA
  have X0:0<=x/\x<=9223372036854775807:=HG.out.qW i x (by rw [vh.out];exact vk);have fF:Below w.heap.size w w.drew:=(aak _ w).drew;have h2:LM (w.drew.setCell ⟨go,i,none⟩ (.int .i64 x)) b m (some ⟨go,0,none⟩) co (some ⟨g,0,none⟩) cq (os.set i x) es (h_ qs) (total qs):=(HL.out.below fF).tS i x;have mK:=Jj h2 (i:=i) (by rw [vg.out];exact Ew) (p:=x) ⟨by omega,X0.2⟩ vk (by rw [<-vh.out];exact HG.out.nd i) (by rw [wZ];exact ky);have oO:=HL.out.lb.qb i (by rw [vg.out];exact Ew) gx (by rw [Qd];rfl);have hcx:(w.drew.setCell ⟨go,i,none⟩ (.int .i64 x)).cell? ⟨gx,ox,none⟩=some (.int .i64 x):=by
   have bC:gx≠go:=fun e=>oO.2.1 (by rw [e];rfl)
   rw [aa1 (w:=w.drew) (a:=⟨gx,ox,none⟩) (aay _ _ _ _ bC)];exact cx
  have HE:Hid (∀w',F8 (w.drew.setCell ⟨go,i,none⟩ (.int .i64 x)) b m (some ⟨go,0,none⟩) co (some ⟨g,0,none⟩) cq (os.set i x) es (h_ qs) (total qs) i x w'->LT w b m (some ⟨go,0,none⟩) co (some ⟨g,0,none⟩) cq es (kJ os qs i) (pT qs i) w'):=hd (fun w' hl=>by
   have yw:=HG.out.tS (i:=i) (v:=x) ⟨by omega,X0.2⟩;have CT:aW qs i=x::r:=by rw [vh.out,wZ]
   obtain ⟨es',t1,t2,t3,t4⟩:=Ue yw HQ.out (by rw [CT];exact aaA) hl;rw [hand_leave HG.out CT]at t1 t2;have e2:kJ os qs i=os.set i x:=by unfold kJ;rw [CT];rfl
   rw [e2];refine ⟨es',t1,t2,(Mod.aS _ fF).trans ((Mod.refl (eY b m (some ⟨go,0,none⟩) (some ⟨g,0,none⟩) es) w.drew).setCell (p:=⟨go,i,none⟩) (.inl (.inr (.inr (.inl rfl)))) (.int .i64 x)) (fun _ h=> .inl h)|>.trans t3 (fun _ h=> .inl h),fun k hk=> ?_⟩;rcases t4 k hk with h|h
   ·exact .inl h
   ·exact .inr (by simpa [World.setCell]using h))
  obtain ⟨lr,Qf⟩:=Haa ((x::r).length);have hlr0:((lr:Int)==0)=false:=by rw [<-Qf.out];simp;omega
  have hlr1:0<lr:=by rw [<-Qf.out];simp
  rw [Qf.out]at Hf ky;rw [Qd]at Hf;clear HL HG HQ vh Hg jM wZ Qc Hh vg h2 vk oO Qd;go_enter func201,ntmps201;go_upto_region 3 with fail;go_region;obtain ⟨w2,dX⟩:=Haa ((w.setCell ⟨go,i,none⟩ (.int .i64 x)).drew);rw [show w.drew.setCell ⟨go,i,none⟩ (.int .i64 x)=(w.setCell ⟨go,i,none⟩ (.int .i64 x)).drew from rfl,dX.out]at mK hcx HE;rw [dX.out];go_wp2_with (first|(go_at_call 200;refine mK.mono ?_;rintro e3 w3 ⟨rfl,AO⟩));go_end0;exact ⟨rfl,HE.out _ AO⟩
def tT(w:World)(l:List Int)(w':World)(a:Option Addr)(n c:Nat):Prop:=l.length=n/\Row w' 3 1 a n c (iC l)/\Below w.heap.size w w'/\∀k,ae a=some k->w.heap.size<=k
theorem tT.nil(w:World):tT w [] w none 0 0:=⟨rfl,Row.nil,fk w,fun _ h=>(by cases h)⟩
theorem tT.push{w1:World}{l:List Int}{a:Option Addr}{c:Nat}(h:tT w l w1 a n c)(hn:n<8796093022208)(v:Int):
 ∃a' c' w',(∀ty,(Builtin.append_ #[23,23] ty #[.slice a n c,.slice (some ⟨w1.heap.size,0,none⟩) 1 1]).run prog (w1.alloc (.cells #[.int .i64 v] 3))=.ok (.slice a' (n+1) c') w')/\tT w (l++[v]) w' a' (n+1) c':=by
 obtain ⟨h1,h2,h3,h4⟩:=h;obtain ⟨a',c',w',m1,m2,m3,m4⟩:=mX (T:=23) aaV Ck rfl h2 (by unfold maxLen;omega) (by omega) [.int .i64 v] rfl (by simp [Value.oneCell']);refine ⟨a',c',w',m1,by simp [h1],by rw [xR];exact m2,h3.trans (m3.below h3.size (fun k _ hk=>h4 k hk)),fun k hk=> ?_⟩;rcases m4 k hk with h5|h5
 ·exact h4 k h5
 ·exact aai h3.size h5
theorem holds_any{X:List Value}(h:LB w 240 X b ao co aq cq os es)(h8:os.length<=8)(d_:∀i,-1<=jo os i)(p:Int):
 Calls prog 195 #[.pointer (some ⟨b,0,none⟩),.int .i64 p] w fun e w'=>∃a n c,e=.returned (.slice a n c)/\tT w (hold os p) w' a n c:=by
 have c0:=h.c0;have HC:Hid (∀i,i<os.length->∀wr,Below w.heap.size w wr->∃g,ao=some ⟨g,0,none⟩/\wr.cell? ⟨g,i,none⟩=some (.int .i64 (jo os i))):=hd (fun i hi wr hb=>(h.below hb).owner i hi);obtain ⟨n,hN⟩:=Haa os.length;rw [hN.out]at c0 HC h8;have HO:=hd d_;have mg:Hid (hold os p=qF os p n):=hd (by unfold hold;rw [hN.out]);rw [mg.out];clear h d_ mg;go_enter func195,ntmps195;go_wp2_with fail;go_loopg [5,6,7,13,14,15,16,17,18,19,20,21,22,23,24,25,26,27,28,29] n (fun k v5 _ _ v13 _ _ _ _ _ _ _ _ _ _ _ _ _ _ _ _ wr=>∃(i nn c:Nat) (a:Option Addr),i+k=n/\v13=.int .i64 (i:Int)/\v5=.slice a nn c/\nn<=i/\Hid (tT w (qF os p i) wr a nn c))
 case atStart=>exact ⟨0,0,0,none,by omega,by go_num,rfl,aag _,hd (tT.nil w)⟩
 case round=>
  obtain ⟨i,nn,c,a,dh,rfl,rfl,gZ,HW⟩:=hrel;by_cases h0:gk=0
  ·subst h0;have hi:i=n:=by omega
   subst hi;clear dh HC HO hN;go_wp2_with fail;go_ret;exact ⟨a,nn,c,rfl,HW.out⟩
  ·have af:i<n:=by omega
   obtain ⟨g,rfl,ci⟩:=HC.out i af wr HW.out.2.2.1;have HS:=hd (holdTo_succ os p i);have dH:=HO.out i;generalize jo os i=v at*
   by_cases h1:v=-1
   ·subst h1;have nT:Hid (tT w (qF os p (i+1)) wr a nn c):=hd (by rw [HS.out,aaf (by omega),abD];exact HW.out);clear HS HW dH;go_wp2_with fail;go_roundg (gk-1)
    case rel=>exact ⟨i+1,nn,c,a,by omega,by go_num,rfl,by omega,nT⟩
    case measure=>omega
   ·have jY:(v !=-1)=true:=by simpa using h1
    by_cases h2:v=p
    ·obtain ⟨a',c',w',aO,ho⟩:=HW.out.push (by omega) (i:Int);have nT:Hid (tT w (qF os p (i+1)) w' a' (nn+1) c'):=hd (by rw [HS.out,aah ⟨by omega,h2⟩];exact ho);subst h2;replace aO:=hd aO;clear HS HW dH ho h1;go_wp2_with (first|(at_builtin;refine dZ rfl _ _ _ rfl _ _ _ _ rfl rfl aO.out ?_;clear aO));go_roundg (gk-1)
     case rel=>exact ⟨i+1,nn+1,c',a',by omega,by go_num,rfl,by omega,nT⟩
     case measure=>omega
    ·have oM:(v==p)=false:=by simpa using h2
     have nT:Hid (tT w (qF os p (i+1)) wr a nn c):=hd (by rw [HS.out,aaf (fun e=>h2 e.2),abD];exact HW.out);clear HS HW dH h1 h2;go_wp2_with fail;go_roundg (gk-1)
     case rel=>exact ⟨i+1,nn,c,a,by omega,by go_num,rfl,by omega,nT⟩
     case measure=>omega
end Go.Proofs.YthopnfbjiifhhaaGreatDoor.aV
