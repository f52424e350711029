/- A machine, plainly: how it stands, and what each call makes of it. -/
import Derived.Test.YthopnfbjiifhhaaGreatDoorGJc
import Derived.Test.YthopnfbjiifhhaaGreatDoorGPa
import Derived.Test.YthopnfbjiifhhaaGreatDoorGQd
import Derived.Test.YthopnfbjiifhhaaGreatDoorGUa
import Derived.Test.YthopnfbjiifhhaaGreatDoorGWc
set_option maxHeartbeats 2000000
set_option maxRecDepth 100000
namespace Go.Proofs.YthopnfbjiifhhaaGreatDoor
open Go.Proofs.Tryz
structure cF where
 st:Int
 core:eZ.Core
 timer:Int
 fired:Bool
 bE:Int
 ss:List aL.LS
 lc:Nat
instance:Inhabited cF:=⟨⟨0,⟨0,fun _=>0⟩,0,false,0,[],0⟩⟩
structure fg where
 cur:Nat
 log:List (Int×Int×Int)
 lost:Int
 fC:Int
 os:List Int
 qs:List (List Int)
instance:Inhabited fg:=⟨⟨0,[],0,0,[],[]⟩⟩
structure MS where
 tick:Int
 pt:List fg
 pr:List cF
def aB(m:MS)(p:Nat):cF:=m.pr.getD p default
def aM(m:MS)(i:Nat):fg:=m.pt.getD i default
def MS.bM(m:MS)(p:Nat)(f:cF->cF):MS:={m with pr:=m.pr.set p (f (aB m p))}
def MS.dO(m:MS)(i:Nat)(f:fg->fg):MS:={m with pt:=m.pt.set i (f (aM m i))}
def pa(c:ak)(p:Nat):Nat:=(c.procs.getD p default).part.toNat
def cd(c:ak)(p:Nat):List Ins:=(c.procs.getD p default).code
def aQ(c:ak)(i:Nat):List Nat:=(List.range c.procs.length).filter (fun p=>decide ((c.procs.getD p default).part=(i:Int)))
def ended(st:Int):Bool:=decide (st=5)||decide (st=6)
def zV(c:ak)(m:MS)(p:Nat)(v:Int):MS:=m.bM p fun x=>{x with st:=0,core:=eZ.D3 x.core (cd c p) v}
def xT(m:MS)(p:Nat):MS:=m.bM p fun x=>{x with st:=0,core:=x.core.next}
def Cf(m:MS)(p:Nat):MS:=m.bM p fun x=>{x with st:=if x.st=1 then 0 else x.st}
def more(n:Int):Int:=aL.OA n
def qG(m:MS)(p:Int):MS:=if p=-1 then m else xT m p.toNat
def ni(m:MS)(p:Nat)(l:List Nat):MS:=l.foldl (fun m q=>m.bM q fun x=>{x with ss:=(aL.rU x.ss p).2}) m
def yc(c:ak)(m:MS)(p:Nat)(st:Int):MS:=
 let m1:=ni (m.bM p fun x=>{x with st:=st,fired:=false}) p (aQ c (pa c p))
 let r:=aV.qM (aM m1 (pa c p)).os (aM m1 (pa c p)).qs p
 let m2:=r.2.2.foldl (fun m g=>qG m g.2) (m1.dO (pa c p) fun t=>{t with os:=r.1,qs:=r.2.1})
 let m3:=m2.bM p fun x=>{x with timer:=0,bE:=0}
 let w:=aL.jf (aB m3 p).ss
 w.1.foldl (fun m x=>zV c m x.1.toNat 2) (m3.bM p fun x=>{x with ss:=w.2})
def qH(c:ak)(m:MS)(p:Nat):MS:=
 let r:=eZ.uO (aB m p).core (cd c p) m.tick p
 let m1:=m.bM p fun x=>{x with core:=r.1}
 if r.2.1=1 then yc c m1 p 5 else m1
def Ap(tick:Int)(x:cF):cF:=
 let y:cF:=if 0<x.timer/\x.timer<=tick then{x with timer:=0,fired:=true,st:=if x.st=1 then 0 else x.st}else x
 if 0<y.bE/\y.bE<=tick then{y with bE:=0,st:=0,core:=y.core.next}else y
def lF(m:MS)(l:List Nat):MS:=l.foldl (fun m p=>m.bM p (Ap m.tick)) m
def nB(m:MS)(l:List Nat)(cur:Nat):Nat->Nat->Option Nat
 |_,0=>none
 |k,f+1=>if(aB m (l.getD ((cur+k)% l.length) 0)).st=0 then some ((cur+k)% l.length)else nB m l cur (k+1) f
def pU(c:ak)(i:Nat):Nat->MS->MS
 |0,m=>m
 |f+1,m=>match nB m (aQ c i) (aM m i).cur 0 (aQ c i).length with
  |none=>m
  |some k=>pU c i f (qH c (m.dO i fun t=>{t with cur:=(k+1)% (aQ c i).length}) ((aQ c i).getD k 0))
def pQ(c:ak)(m:MS):Nat:=(c.table.getD (m.tick.toNat% c.table.length) 0).toNat
def rX(c:ak)(m:MS):MS:=
 let m1:=pU c (pQ c m) c.fuel.toNat (lF m (aQ c (pQ c m)))
 {m1 with tick:=m1.tick+1}
def eG(c:ak)(m:MS)(p:Int):Int:=if p<0\/(c.procs.length:Int)<=p then 17 else if ended (aB m p.toNat).st then 18 else 0
def firstM(c:ak):MS:=
 ⟨0,List.replicate c.labels.length ⟨0,[],0,0,List.replicate c.aF.toNat (-1),List.replicate c.aF.toNat []⟩,
  List.replicate c.procs.length ⟨0,⟨0,fun _=>0⟩,0,false,0,List.replicate (c.labels.length+1) ⟨c.lane.toNat,[],[],0,0⟩,0⟩⟩
section
variable{m:MS} {p q i j:Nat} {f g:cF->cF} {h:fg->fg}
@[simp]theorem prOf_modT:aB (m.dO i h) p=aB m p:=rfl
@[simp]theorem ptOf_modP:aM (m.bM p f) i=aM m i:=rfl
@[simp]theorem Jm:(m.bM p f).tick=m.tick:=rfl
@[simp]theorem tick_modT:(m.dO i h).tick=m.tick:=rfl
@[simp]theorem zJ:(m.bM p f).pr.length=m.pr.length:=by simp [MS.bM]
@[simp]theorem lenT_modP:(m.bM p f).pt.length=m.pt.length:=rfl
@[simp]theorem len_modT:(m.dO i h).pr.length=m.pr.length:=rfl
@[simp]theorem lenT_modT:(m.dO i h).pt.length=m.pt.length:=by simp [MS.dO]
theorem pJ(hp:p<m.pr.length):aB (m.bM p f) q=if q=p then f (aB m p)else aB m q:=by
 by_cases e:p=q
 ·subst e;rw [aah rfl];unfold aB MS.bM;rw [aac,aaP];simp [hp,aB]
 ·rw [aaf (fun h=>e h.symm)];unfold aB MS.bM;rw [aac,aac,aaP,aaf e]
theorem DL(hp:p<m.pr.length):aB (m.bM p f) p=f (aB m p):=by rw [pJ hp,aah rfl]
theorem BG(hq:q≠p):aB (m.bM p f) q=aB m q:=by
 unfold aB MS.bM;rw [aac,aac,aaP,aaf (fun h=>hq h.symm)]
theorem Jn(hi:i<m.pt.length):aM (m.dO i h) j=if j=i then h (aM m i)else aM m j:=by
 by_cases e:i=j
 ·subst e;rw [aah rfl];unfold aM MS.dO;rw [aac,aaP];simp [hi,aM]
 ·rw [aaf (fun h=>e h.symm)];unfold aM MS.dO;rw [aac,aac,aaP,aaf e]
theorem FK(hi:i<m.pt.length):aM (m.dO i h) i=h (aM m i):=by rw [Jn hi,aah rfl]
theorem Td(hj:j≠i):aM (m.dO i h) j=aM m j:=by
 unfold aM MS.dO;rw [aac,aac,aaP,aaf (fun h=>hj h.symm)]
theorem TJ(hp:p<m.pr.length):(m.bM p f).bM p g=m.bM p (fun x=>g (f x)):=by
 have h1:=DL (f:=f) hp;unfold MS.bM at*
 simp only [h1,List.set_set]
theorem modP_id(hp:p<m.pr.length)(hf:f (aB m p)=aB m p):m.bM p f=m:=by
 unfold MS.bM;rw [hf];have:m.pr.set p (aB m p)=m.pr:=by
  unfold aB;rw [aac,aad hp];simp
 rw [this]
end
inductive Ix where
 |head:Ix
 |rF:Ix
 |slt:Ix
 |part (i:Nat):Ix
 |kB (i:Nat):Ix
 |dU (i:Nat):Ix
 |proc (p:Nat):Ix
 |jQ (p:Nat):Ix
def iA(c:ak)(m m':MS):Ix->Prop
 | .head=>m'.tick=m.tick
 | .rF=>True
 | .slt=>True
 | .part i=>(aM m' i).cur=(aM m i).cur/\(aM m' i).log=(aM m i).log/\(aM m' i).lost=(aM m i).lost/\(aM m' i).fC=(aM m i).fC
 | .kB i=>(aM m' i).os=(aM m i).os/\(aM m' i).qs=(aM m i).qs
 | .dU i=>∀p∈aQ c i,(aB m' p).timer=(aB m p).timer/\(aB m' p).bE=(aB m p).bE
 | .proc p=>(aB m' p).st=(aB m p).st/\(aB m' p).core=(aB m p).core/\(aB m' p).fired=(aB m p).fired
 | .jQ p=>(aB m' p).ss=(aB m p).ss/\(aB m' p).lc=(aB m p).lc
variable{i p:Nat}{m:MS}{y:Ix}
theorem kG{c:ak}:p∈aQ c i↔p<c.procs.length/\(c.procs.getD p default).part=(i:Int):=by simp [aQ]
theorem OK{c:ak}(h:p∈aQ c i):pa c p=i:=by
 have:=(kG.1 h).2;unfold pa;rw [this];rfl
theorem agr_proc{c:ak}{f:cF->cF}(h1:∀x,(f x).timer=x.timer)(h2:∀x,(f x).bE=x.bE)(h3:∀x,(f x).ss=x.ss)(h4:∀x,(f x).lc=x.lc)(hp:p<m.pr.length)(hy:y≠.proc p):iA c m (m.bM p f) y:=by
 cases y with
 |dU i=>
  intro q _;rw [pJ hp];split
  ·next e=>rw [h1,h2,e];exact ⟨rfl,rfl⟩
  ·exact ⟨rfl,rfl⟩
 |proc q=>
  have:q≠p:=fun e=>hy (by rw [e])
  simp only [iA,BG this,and_self]
 |jQ q=>
  simp only [iA];rw [pJ hp];split
  ·next e=>rw [h3,h4,e];exact ⟨rfl,rfl⟩
  ·exact ⟨rfl,rfl⟩
 |_=>simp [iA]
theorem UU{c:ak}{f:cF->cF}(h1:∀x,(f x).timer=x.timer)(h2:∀x,(f x).bE=x.bE)(h3:∀x,(f x).st=x.st)(h4:∀x,(f x).core=x.core)(h5:∀x,(f x).fired=x.fired)(hp:p<m.pr.length)(hy:y≠.jQ p):iA c m (m.bM p f) y:=by
 cases y with
 |dU i=>
  intro q _;rw [pJ hp];split
  ·next e=>rw [h1,h2,e];exact ⟨rfl,rfl⟩
  ·exact ⟨rfl,rfl⟩
 |jQ q=>
  have:q≠p:=fun e=>hy (by rw [e])
  simp only [iA,BG this,and_self]
 |proc q=>
  simp only [iA];rw [pJ hp];split
  ·next e=>rw [h3,h4,h5,e];exact ⟨rfl,rfl,rfl⟩
  ·exact ⟨rfl,rfl,rfl⟩
 |_=>simp [iA]
theorem agr_whl{c:ak}{f:cF->cF}(h1:∀x,(f x).ss=x.ss)(h2:∀x,(f x).lc=x.lc)(h3:∀x,(f x).st=x.st)(h4:∀x,(f x).core=x.core)(h5:∀x,(f x).fired=x.fired)(hp:p<m.pr.length)(hy:y≠.dU (pa c p)):iA c m (m.bM p f) y:=by
 cases y with
 |dU i=>
  intro q hq;have:q≠p:=fun e=>hy (by rw [<-e,OK hq])
  simp only [BG this,and_self]
 |jQ q=>
  simp only [iA];rw [pJ hp];split
  ·next e=>rw [h1,h2,e];exact ⟨rfl,rfl⟩
  ·exact ⟨rfl,rfl⟩
 |proc q=>
  simp only [iA];rw [pJ hp];split
  ·next e=>rw [h3,h4,h5,e];exact ⟨rfl,rfl,rfl⟩
  ·exact ⟨rfl,rfl,rfl⟩
 |_=>simp [iA]
theorem agr_part{c:ak}{f:fg->fg}(h1:∀x,(f x).os=x.os)(h2:∀x,(f x).qs=x.qs)(hi:i<m.pt.length)(hy:y≠.part i):iA c m (m.dO i f) y:=by
 cases y with
 |kB j=>
  simp only [iA];rw [Jn hi];split
  ·next e=>rw [h1,h2,e];exact ⟨rfl,rfl⟩
  ·exact ⟨rfl,rfl⟩
 |part j=>
  have:j≠i:=fun e=>hy (by rw [e])
  simp only [iA,Td this,and_self]
 |_=>simp [iA]
theorem agr_lck{c:ak}{f:fg->fg}(h1:∀x,(f x).cur=x.cur)(h2:∀x,(f x).log=x.log)(h3:∀x,(f x).lost=x.lost)(h4:∀x,(f x).fC=x.fC)(hi:i<m.pt.length)(hy:y≠.kB i):iA c m (m.dO i f) y:=by
 cases y with
 |part j=>
  simp only [iA];rw [Jn hi];split
  ·next e=>rw [h1,h2,h3,h4,e];exact ⟨rfl,rfl,rfl,rfl⟩
  ·exact ⟨rfl,rfl,rfl,rfl⟩
 |kB j=>
  have:j≠i:=fun e=>hy (by rw [e])
  simp only [iA,Td this,and_self]
 |_=>simp [iA]
theorem agr_tick{c:ak}{t:Int}(hy:y≠.head):iA c m {m with tick:=t} y:=by
 cases y with
 |head=>exact absurd rfl hy
 |part i=>exact ⟨rfl,rfl,rfl,rfl⟩
 |kB i=>exact ⟨rfl,rfl⟩
 |dU i=>exact fun _ _=>⟨rfl,rfl⟩
 |proc i=>exact ⟨rfl,rfl,rfl⟩
 |jQ i=>exact ⟨rfl,rfl⟩
 |_=>trivial
structure dK(c:ak):Prop where
 pY:∀x∈c.labels,x<18446744073709551616
 n1:1<=c.labels.length
 n8:c.labels.length<=8
 t1:1<=c.table.length
 t64:c.table.length<=64
 qh:∀i,i<c.table.length->0<=c.table.getD i 0/\c.table.getD i 0<(c.labels.length:Int)
 f1:1<=c.fuel
 f256:c.fuel<=256
 l1:1<=c.lane
 YX:c.lane<=64
 k0:0<=c.aF
 k8:c.aF<=8
 g0:0<=c.log
 We:c.log<=4096
 p1:1<=c.procs.length
 k_:c.procs.length<=32
 part:∀p,p<c.procs.length->0<=(c.procs.getD p default).part/\(c.procs.getD p default).part<(c.labels.length:Int)
 code:∀p,p<c.procs.length->(gB (cd c p) c.aF).1=0
 jmp:∀p,p<c.procs.length->eZ.yH (cd c p)
theorem dK.D4{c:ak}(h:dK c)(hp:p<c.procs.length):pa c p<c.labels.length:=by
 have:=h.part p hp;unfold pa;omega
theorem dK.mem{c:ak}(h:dK c)(hp:p<c.procs.length):p∈aQ c (pa c p):=by
 have:=h.part p hp;exact kG.2 ⟨hp,by unfold pa;omega⟩
theorem JP(c:ak)(i:Nat):(aQ c i).length<=c.procs.length:=by
 have:=List.length_filter_le (fun p=>decide ((c.procs.getD p default).part=(i:Int))) (List.range c.procs.length);simpa [aQ]using this
theorem Oj{c:ak}{k:Nat}(h:k<(aQ c i).length):(aQ c i).getD k 0∈aQ c i:=by
 rw [aac,aad h];exact aaG h
def jg(c:ak)(p:Int):Prop:=0<=p/\p<(c.procs.length:Int)
structure aG(c:ak)(m:MS):Prop where
 np:m.pt.length=c.labels.length
 nq:m.pr.length=c.procs.length
 t0:0<=m.tick
 lk:∀i,i<c.labels.length->aV.fw (aM m i).os (aM m i).qs/\((aM m i).os.length:Int)=c.aF
 own:∀i,i<c.labels.length->∀o∈(aM m i).os,o=-1\/jg c o
 rG:∀i,i<c.labels.length->∀k x,x∈aV.aW (aM m i).qs k->jg c x
 cur:∀i,i<c.labels.length->(aM m i).cur=0\/(aM m i).cur<(aQ c i).length
 log:∀i,i<c.labels.length->((aM m i).log.length:Int)<=c.log
 uB:∀i,i<c.labels.length->(0<=(aM m i).lost/\(aM m i).lost<=65535)/\0<=(aM m i).fC/\(aM m i).fC<=65535
 ln:∀p,p<c.procs.length->aL.nj (aB m p).ss (aB m p).lc/\(aB m p).ss.length=c.labels.length+1
 room:∀p,p<c.procs.length->∀s∈(aB m p).ss,(s.room:Int)=c.lane
 qW:∀p,p<c.procs.length->∀s∈(aB m p).ss,∀x∈s.ws,jg c x.1
 vG:∀p,p<c.procs.length->(0<=(aB m p).timer/\(aB m p).timer<=m.tick+1099511627776)/\0<=(aB m p).bE/\(aB m p).bE<=m.tick+1099511627776
open Go.RowKit
def lU(bs:List Nat):List Value:=bs.map (fun b=> .pointer (some ⟨b,0,none⟩))
theorem J2(l:List Nat)(i:Nat)(h:i<l.length):(lU l)[i]?=some (.pointer (some ⟨l.getD i 0,0,none⟩)):=by
 simp [lU,List.getD_eq_getElem?_getD,List.getElem?_eq_getElem h]
theorem NS(l m:List Nat):lU (l++m)=lU l++lU m:=by simp [lU]
def Lf(x:Int×Int×Int):List Value:=[.int .i64 x.1,.int .i64 x.2.1,.int .i64 x.2.2]
def mU(l:List (Int×Int×Int)):List Value:=l.flatMap Lf
theorem NT(l:List (Int×Int×Int)):(mU l).length=l.length*3:=by
 induction l with
 |nil=>rfl
 |cons x r ih=>simp only [mU,List.flatMap_cons,List.length_append,List.length_cons]at*;rw [ih,show(Lf x).length=3 from rfl];omega
theorem NU(l:List (Int×Int×Int)):∀u∈mU l,u.oneCell'=true:=by
 intro u hu;simp only [mU,List.mem_flatMap,Lf]at hu;obtain ⟨x,_,hx⟩:=hu;simp only [List.mem_cons,List.not_mem_nil,or_false]at hx;rcases hx with rfl|rfl|rfl<;>rfl
structure Lay where
 c:ak
 g:Loc
 bm:Nat
 bt:Nat
 bs:Nat
 ap:Option Addr
 cp:Nat
 aq:Option Addr
 cq:Nat
 bp:Nat->Nat
 bl:Nat->Nat
 bw:Nat->Nat
 ar:Nat->Option Addr
 cr:Nat->Nat
 bq:Nat->Nat
 bo:Nat->Nat
 K:Nat->Prop
def Lay.ok(l:Lay):Ix->Prop
 | .part i=>i<l.c.labels.length
 | .kB i=>i<l.c.labels.length
 | .dU i=>i<l.c.labels.length
 | .proc p=>p<l.c.procs.length
 | .jQ p=>p<l.c.procs.length
 |_=>True
def QQ(l:Lay)(tick:Int):Array Value:=#[.slice l.g.la l.c.labels.length l.g.lc,.slice l.g.ta l.c.table.length l.g.tc,.int .i64 l.c.fuel,.int .i64 l.c.lane,.int .i64 l.c.aF,.int .i64 l.c.log,.slice l.g.pa l.c.procs.length l.g.pc,
 .pointer (some ⟨l.bt,0,none⟩),.pointer (some ⟨l.bs,0,none⟩),.int .i64 tick,.slice l.ap l.c.labels.length l.cp,.slice l.aq l.c.procs.length l.cq]
def rH(l:Lay)(i:Nat)(x:fg)(la:Option Addr)(lc:Nat):Array Value:=#[.int .i64 (i:Int),.slice (l.ar i) (aQ l.c i).length (l.cr i),.int .i64 (x.cur:Int),.slice la x.log.length lc,.int .i64 x.lost,.int .i64 x.fC,.pointer (some ⟨l.bl i,0,none⟩),.pointer (some ⟨l.bw i,0,none⟩)]
def sQ(l:Lay)(p:Nat):jl:=l.g.ms.getD p default
def rI(l:Lay)(p:Nat)(x:cF):Array Value:=#[.int .i64 (p:Int),.pointer (some ⟨l.bp (pa l.c p),0,none⟩),.slice (sQ l p).a (cd l.c p).length (sQ l p).c,.int .i64 x.st,
 .int .i64 x.core.pc,.int .i64 (x.core.r 0),.int .i64 (x.core.r 1),.int .i64 (x.core.r 2),.int .i64 (x.core.r 3),.int .i64 (x.core.r 4),.int .i64 (x.core.r 5),.int .i64 (x.core.r 6),.int .i64 (x.core.r 7),
 .bool x.fired,.pointer (some ⟨l.bo p,0,none⟩)]
def kC(c:ak)(m:MS)(i:Nat)(L:List aZ.Th):Prop:=
 ∀t,t∈L↔∃p:Nat,p∈aQ c i/\((t=((aB m p).timer,2*(p:Int))/\0<(aB m p).timer)\/(t=((aB m p).bE,2*(p:Int)+1)/\0<(aB m p).bE))
def ib(l:Lay)(m:MS):Ix->World->(Nat->Prop)->Prop
 | .head,w,F=>w.heap[l.bm]?=some (.cells (QQ l m.tick) 163 (0,0))/\Row w 166 1 l.ap l.c.labels.length l.cp (lU ((List.range l.c.labels.length).map l.bp))/\Row w 168 1 l.aq l.c.procs.length l.cq (lU ((List.range l.c.procs.length).map l.bq))/\
   ae l.ap≠some l.bm/\ae l.aq≠some l.bm/\F l.bm/\(∀k,ae l.ap=some k->F k)/\∀k,ae l.aq=some k->F k
 | .rF,w,F=>∃a cap mb,w.heap[l.bt]?=some (.cells #[.slice a l.c.labels.length cap,.map (some mb)] 205 (0,0))/\Row w 28 1 a l.c.labels.length cap (fJ l.c.labels)/\F l.bt/\∀k,ae a=some k->F k
 | .slt,w,F=>∃a cap,w.heap[l.bs]?=some (.cells #[.slice a l.c.table.length cap] 126 (0,0))/\Row w 3 1 a l.c.table.length cap (iC l.c.table)/\F l.bs/\∀k,ae a=some k->F k
 | .part i,w,F=>∃la lc,w.heap[l.bp i]?=some (.cells (rH l i (aM m i) la lc) 178 (0,0))/\Row w 168 1 (l.ar i) (aQ l.c i).length (l.cr i) (lU ((aQ l.c i).map l.bq))/\Row w 138 3 la (aM m i).log.length lc (mU (aM m i).log)/\
   ae (l.ar i)≠some (l.bp i)/\ae la≠some (l.bp i)/\(∀k,ae la=some k->ae (l.ar i)≠some k)/\F (l.bp i)/\(∀k,ae (l.ar i)=some k->F k)/\∀k,ae la=some k->F k
 | .kB i,w,F=>aV.Lk w (l.bl i) F (aM m i).os (aM m i).qs
 | .dU i,w,F=>∃L,aZ.Wh w (l.bw i) F L/\kC l.c m i L
 | .proc p,w,F=>w.heap[l.bq p]?=some (.cells (rI l p (aB m p)) 173 (0,0))/\F (l.bq p)
 | .jQ p,w,F=>aL.Ps w 244 283 245 (l.bo p) F (aB m p).ss (aB m p).lc
variable{l:Lay}{m:MS}{x:Ix}{w w':World}{F S:Nat->Prop}
theorem ib.mod(h:ib l m x w F)(hm:Mod S w w')(hn:∀k,F k->¬S k):ib l m x w' F:=by
 cases x with
 |head=>
  obtain ⟨h1,h2,h3,h4,h5,h6,h7,h8⟩:=h;exact ⟨by rw [hm.block l.bm (aab.1 h1).1 (hn _ h6)];exact h1,h2.mod hm (fun k hk=>hn k (h7 k hk)),h3.mod hm (fun k hk=>hn k (h8 k hk)),h4,h5,h6,h7,h8⟩
 |rF=>
  obtain ⟨a,cap,mb,h1,h2,h3,h4⟩:=h;exact ⟨a,cap,mb,by rw [hm.block l.bt (aab.1 h1).1 (hn _ h3)];exact h1,h2.mod hm (fun k hk=>hn k (h4 k hk)),h3,h4⟩
 |slt=>
  obtain ⟨a,cap,h1,h2,h3,h4⟩:=h;exact ⟨a,cap,by rw [hm.block l.bs (aab.1 h1).1 (hn _ h3)];exact h1,h2.mod hm (fun k hk=>hn k (h4 k hk)),h3,h4⟩
 |part i=>
  obtain ⟨la,lc,h1,h2,h3,h4,h5,h6,h7,h8,h9⟩:=h;exact ⟨la,lc,by rw [hm.block _ (aab.1 h1).1 (hn _ h7)];exact h1,h2.mod hm (fun k hk=>hn k (h8 k hk)),h3.mod hm (fun k hk=>hn k (h9 k hk)),h4,h5,h6,h7,h8,h9⟩
 |kB i=>exact aV.Lk.mod h hm hn
 |dU i=>
  obtain ⟨L,h1,h2⟩:=h;exact ⟨L,h1.mod hm hn,h2⟩
 |proc p=>
  obtain ⟨h1,h2⟩:=h;exact ⟨by rw [hm.block _ (aab.1 h1).1 (hn _ h2)];exact h1,h2⟩
 |jQ p=>exact aL.Ps.mod h hm hn
theorem ib.agr{m':MS}(ha:iA l.c m m' x)(h:ib l m x w F):ib l m' x w F:=by
 cases x with
 |head=>
  simp only [iA]at ha;simpa only [ib,ha]using h
 |rF=>exact h
 |slt=>exact h
 |part i=>
  obtain ⟨h1,h2,h3,h4⟩:=ha;simpa only [ib,rH,h1,h2,h3,h4]using h
 |kB i=>
  obtain ⟨h1,h2⟩:=ha;simpa only [ib,h1,h2]using h
 |dU i=>
  obtain ⟨L,h1,h2⟩:=h;refine ⟨L,h1,fun t=>(h2 t).trans ?_⟩;constructor
  ·rintro ⟨p,hp,h⟩;obtain ⟨e1,e2⟩:=ha p hp;exact ⟨p,hp,by rw [e1,e2];exact h⟩
  ·rintro ⟨p,hp,h⟩;obtain ⟨e1,e2⟩:=ha p hp;exact ⟨p,hp,by rw [e1,e2]at h;exact h⟩
 |proc p=>
  obtain ⟨h1,h2,h3⟩:=ha;simpa only [ib,rI,h1,h2,h3]using h
 |jQ p=>
  obtain ⟨h1,h2⟩:=ha;simpa only [ib,h1,h2]using h
def sS(g:Loc)(k:Nat):Prop:=ae g.la=some k\/ae g.ta=some k\/ae g.pa=some k\/∃m∈g.ms,ae m.a=some k
theorem fD.mod{c:ak}{g:Loc}(h:fD w c g)(hm:Mod S w w')(hn:∀k,sS g k->¬S k):fD w' c g:=
 ⟨h.pY.mod (fun k hk _=>hn k (.inl hk)) hm,h.qh.mod (fun k hk _=>hn k (.inr (.inl hk))) hm,h.oN.mod (fun k hk _=>hn k (.inr (.inr (.inl hk)))) hm,fun x hx=>(h.yx x hx).mod (fun k hk _=>hn k (.inr (.inr (.inr ⟨x,hx,hk⟩)))) hm,h.ps⟩
structure CB(w:World)(l:Lay):Prop where
 cf:fD w l.c l.g
 Ey:bR w
 lim:eQ w
 kc:∀k,sS l.g k->l.K k
 kf:l.K 1
 kl:l.K 0
 mV:∀k,l.K k->k<w.heap.size
theorem CB.mod(h:CB w l)(hm:Mod S w w')(hn:∀k,l.K k->¬S k):CB w' l:=
 ⟨fD.mod h.cf hm (fun k hk=>hn k (h.kc k hk)),bR.mod h.Ey hm (hn _ h.kf),h.lim.mod hm (hn _ h.kl),h.kc,h.kf,h.kl,fun k hk=>aam (h.mV k hk) hm.size⟩
structure MAt(w:World)(l:Lay)(m:MS)(Fs:Ix->Nat->Prop):Prop where
 base:CB w l
 cmp:∀x,l.ok x->ib l m x w (Fs x)
 lt:∀x,l.ok x->∀k,Fs x k->k<w.heap.size
 ap:∀x y,l.ok x->l.ok y->x≠y->∀k,Fs x k->¬Fs y k
 ke:∀x,l.ok x->∀k,Fs x k->¬l.K k
def Mk(w:World)(l:Lay)(U:Nat->Prop)(m:MS):Prop:=∃Fs,MAt w l m Fs/\(∀x,l.ok x->∀k,Fs x k->U k)/\(∀k,U k->k<w.heap.size)/\∀k,U k->¬l.K k
def dm(w:World)(l:Lay)(U:Nat->Prop)(m':MS)(w':World):Prop:=Mod U w w'/\∃U',Mk w' l U' m'/\∀k,U' k->U k\/w.heap.size<=k
section
variable{w w':World} {l:Lay} {m m':MS} {U:Nat->Prop}
theorem Mk.mod{S:Nat->Prop}(h:Mk w l U m)(hm:Mod S w w')(hn:∀k,U k->¬S k)(hk:∀k,l.K k->¬S k):Mk w' l U m:=by
 obtain ⟨Fs,h1,h2,h3,h4⟩:=h;exact ⟨Fs,⟨h1.base.mod hm hk,fun x hx=>(h1.cmp x hx).mod hm (fun k hk=>hn k (h2 x hx k hk)),fun x hx k hk=>aam (h1.lt x hx k hk) hm.size,h1.ap,h1.ke⟩,h2,fun k hk=>aam (h3 k hk) hm.size,h4⟩
theorem Mk.below(h:Mk w l U m)(hb:Below w.heap.size w w'):Mk w' l U m:=h.mod (Mod.aS (fun _=>False) hb) (fun _ _ h=>h) (fun _ _ h=>h)
theorem Mk.base(h:Mk w l U m):CB w l:=by
 obtain ⟨Fs,h1,_⟩:=h;exact h1.base
theorem Mk.out(h:Mk w l U m)(hb:Below w.heap.size w w'):dm w l U m w':=⟨Mod.aS _ hb,U,h.below hb,fun _ h=> .inl h⟩
theorem dm.ahead{w0:World}(hb:Below w0.heap.size w0 w)(h:dm w l U m' w'):dm w0 l U m' w':=by
 obtain ⟨a,U',b,c⟩:=h;refine ⟨(Mod.aS U hb).trans a (fun k hk=> .inl hk),U',b,fun k hk=> ?_⟩;rcases c k hk with h|h
 ·exact .inl h
 ·exact .inr (aai hb.size h)
theorem Mk.J9(h:Mk w l U m)(x:Ix)(hx:l.ok x):∃F,ib l m x w F/\(∀k,F k->U k)/\∀w' m' F',Mod F w w'->ib l m' x w' F'->(∀k,F' k->F k\/w.heap.size<=k)->(∀k,F' k->k<w'.heap.size)->(∀y,y≠x->iA l.c m m' y)->Mod U w w'/\∃U',Mk w' l U' m'/\∀k,U' k->U k\/F' k:=by
 obtain ⟨Fs,h1,h2,h3,h4⟩:=h;refine ⟨Fs x,h1.cmp x hx,h2 x hx,fun w' m' F' hm hc hn af ho=> ?_⟩;have Lg:∀k,l.K k->¬Fs x k:=fun k hk hf=>h1.ke x hx k hf hk
 have YY:∀k,F' k->¬l.K k:=fun k hk hK=>by
  rcases hn k hk with h|h
  ·exact h1.ke x hx k h hK
  ·have:=h1.base.mV k hK;omega
 refine ⟨hm.mono (fun k _ hk=>h2 x hx k hk),fun k=>(U k\/F' k)/\k<w'.heap.size/\¬l.K k,⟨fun y k=>(y=x/\F' k)\/(y≠x/\Fs y k),⟨h1.base.mod hm Lg, ?_, ?_, ?_, ?_⟩, ?_,fun k hk=>hk.2.1,fun k hk=>hk.2.2⟩,fun k hk=>hk.1⟩
 ·intro y hy;by_cases e:y=x
  ·subst e;have:(fun k=>(y=y/\F' k)\/(y≠y/\Fs y k))=F':=funext fun k=>by simp
   rw [this];exact hc
  ·have:(fun k=>(y=x/\F' k)\/(y≠x/\Fs y k))=Fs y:=funext fun k=>by simp [e]
   rw [this];exact ib.agr (ho y e) ((h1.cmp y hy).mod hm (fun k hk bk=>h1.ap y x hy hx e k hk bk))
 ·rintro y hy k (⟨rfl,hk⟩|⟨_,hk⟩)
  ·exact af k hk
  ·exact aam (h1.lt y hy k hk) hm.size
 ·rintro y z hy hz Lh k (⟨rfl,hk⟩|⟨e,hk⟩) (⟨rfl,bk⟩|⟨e2,bk⟩)
  ·exact Lh rfl
  ·rcases hn k hk with h|h
   ·exact h1.ap y z hy hz Lh k h bk
   ·have:=h1.lt z hz k bk;omega
  ·rcases hn k bk with h|h
   ·exact h1.ap y z hy hz Lh k hk h
   ·have:=h1.lt y hy k hk;omega
  ·exact h1.ap y z hy hz Lh k hk bk
 ·rintro y hy k (⟨rfl,hk⟩|⟨_,hk⟩)
  ·exact YY k hk
  ·exact h1.ke y hy k hk
 ·rintro y hy k (⟨rfl,hk⟩|⟨_,hk⟩)
  ·exact ⟨.inr hk,af k hk,YY k hk⟩
  ·exact ⟨.inl (h2 y hy k hk),aam (h1.lt y hy k hk) hm.size,h1.ke y hy k hk⟩
theorem Mk.open_(h:Mk w l U m)(x:Ix)(hx:l.ok x):∃F,ib l m x w F/\(∀k,F k->U k)/\∀w' m' F',Mod F w w'->ib l m' x w' F'->(∀k,F' k->F k\/w.heap.size<=k)->(∀k,F' k->k<w'.heap.size)->(∀y,y≠x->iA l.c m m' y)->dm w l U m' w':=by
 obtain ⟨F,h1,h2,h3⟩:=h.J9 x hx;refine ⟨F,h1,h2,fun w' m' F' a b c d e=> ?_⟩;obtain ⟨h4,U',h5,h6⟩:=h3 w' m' F' a b c d e;refine ⟨h4,U',h5,fun k hk=> ?_⟩;rcases h6 k hk with h|h
 ·exact .inl h
 ·rcases c k h with h'|h'
  ·exact .inl (h2 k h')
  ·exact .inr h'
def Gg(w:World)(l:Lay)(U:Nat->Prop)(m':MS)(A:Nat->Prop)(w':World):Prop:=Mod U w w'/\∃U',Mk w' l U' m'/\(∀k,U' k->U k\/w.heap.size<=k)/\∀k,A k->¬U' k
theorem Mk.lt(h:Mk w l U m):∀k,U k->k<w.heap.size:=by
 obtain ⟨Fs,h1,h2,h3,h4⟩:=h;exact h3
theorem Mk.kB(h:Mk w l U m){i:Nat}(hi:i<l.c.labels.length):∃F,aV.Lk w (l.bl i) F (aM m i).os (aM m i).qs/\(∀k,F k->U k)/\∀w' m' F',Mod F w w'->aV.Lk w' (l.bl i) F' (aM m' i).os (aM m' i).qs->(∀k,F' k->F k\/w.heap.size<=k)->(∀y,y≠.kB i->iA l.c m m' y)->Mod U w w'/\∃U',Mk w' l U' m'/\∀k,U' k->U k\/F' k:=by
 obtain ⟨F,h1,h2,h3⟩:=h.J9 (.kB i) hi;exact ⟨F,h1,h2,fun w' m' F' a b c d=>h3 w' m' F' a b c (aV.Lk.lt b) d⟩
theorem Mk.jQ(h:Mk w l U m){p:Nat}(hp:p<l.c.procs.length):∃F,aL.Ps w 244 283 245 (l.bo p) F (aB m p).ss (aB m p).lc/\(∀k,F k->U k)/\∀w' m' F',Mod F w w'->aL.Ps w' 244 283 245 (l.bo p) F' (aB m' p).ss (aB m' p).lc->(∀k,F' k->F k\/w.heap.size<=k)->(∀y,y≠.jQ p->iA l.c m m' y)->Mod U w w'/\∃U',Mk w' l U' m'/\∀k,U' k->U k\/F' k:=by
 obtain ⟨F,h1,h2,h3⟩:=h.J9 (.jQ p) hp;exact ⟨F,h1,h2,fun w' m' F' a b c d=>h3 w' m' F' a b c (aL.Ps.lt b) d⟩
theorem Mk.dU(h:Mk w l U m){i:Nat}(hi:i<l.c.labels.length):∃F L,aZ.Wh w (l.bw i) F L/\kC l.c m i L/\(∀k,F k->U k)/\∀w' m' F' L',Mod F w w'->aZ.Wh w' (l.bw i) F' L'->kC l.c m' i L'->(∀k,F' k->F k\/w.heap.size<=k)->(∀y,y≠.dU i->iA l.c m m' y)->Mod U w w'/\∃U',Mk w' l U' m'/\∀k,U' k->U k\/F' k:=by
 obtain ⟨F,⟨L,h1,jY⟩,h2,h3⟩:=h.J9 (.dU i) hi;exact ⟨F,L,h1,jY,h2,fun w' m' F' L' a b b' c d=>h3 w' m' F' a ⟨L',b,b'⟩ c (aZ.Wh.lt b) d⟩
theorem dm.of{F F':Nat->Prop}(h2:∀k,F k->U k)(hn:∀k,F' k->F k\/w.heap.size<=k)(h:Mod U w w'/\∃U',Mk w' l U' m'/\∀k,U' k->U k\/F' k):dm w l U m' w':=by
 obtain ⟨h4,U',h5,h6⟩:=h;refine ⟨h4,U',h5,fun k hk=> ?_⟩;rcases h6 k hk with h|h
 ·exact .inl h
 ·rcases hn k h with h'|h'
  ·exact .inl (h2 k h')
  ·exact .inr h'
theorem Gg.of{F F' A:Nat->Prop}(hk:Mk w l U m)(h2:∀k,F k->U k)(hn:∀k,F' k->F k\/w.heap.size<=k)(hA:∀k,A k->w.heap.size<=k/\¬F' k)(h:Mod U w w'/\∃U',Mk w' l U' m'/\∀k,U' k->U k\/F' k):Gg w l U m' A w':=by
 have af:=hk.lt;obtain ⟨h4,U',h5,h6⟩:=h;refine ⟨h4,U',h5,fun k hk=> ?_,fun k hk bk=> ?_⟩
 ·rcases h6 k hk with h|h
  ·exact .inl h
  ·rcases hn k h with h'|h'
   ·exact .inl (h2 k h')
   ·exact .inr h'
 ·obtain ⟨a,b⟩:=hA k hk;rcases h6 k bk with h|h
  ·have:=af k h;omega
  ·exact b h
end
def CD(c:ak)(s:aL.LS):Prop:=(s.room:Int)=c.lane/\∀x∈s.ws,jg c x.1
theorem CD.leave{c:ak}{s:aL.LS}(h:CD c s)(p:Int):CD c (aL.kH s p).2:=by
 unfold aL.kH;split
 ·exact ⟨h.1,fun x hx=>h.2 x (List.mem_of_mem_eraseIdx hx)⟩
 ·exact h
theorem CD.over{c:ak}{s:aL.LS}(h:CD c s):CD c (aL.tR s):=⟨h.1,fun _ hx=>absurd hx aaF⟩
structure sm(c:ak)(ss:List aL.LS)(lc:Nat):Prop where
 good:aL.nj ss lc
 len:ss.length=c.labels.length+1
 each:∀s∈ss,CD c s
variable{lc p:Nat}{m:MS}
theorem sm.leave{c:ak}{ss:List aL.LS}(h:sm c ss lc)(p:Int):sm c (aL.rU ss p).2 lc:=
 ⟨h.good.leave p,by simpa [aL.rU]using h.len,fun x hx=>by
  obtain ⟨s,hs,rfl⟩:=List.mem_map.mp hx
  exact (h.each s hs).leave p⟩
theorem sm.over{c:ak}{ss:List aL.LS}(h:sm c ss lc):sm c (aL.jf ss).2 lc:=
 ⟨h.good.over,by simpa [aL.jf]using h.len,fun x hx=>by
  obtain ⟨s,hs,rfl⟩:=List.mem_map.mp hx
  exact (h.each s hs).over⟩
theorem aG.ls{c:ak}(h:aG c m)(hp:p<c.procs.length):sm c (aB m p).ss (aB m p).lc:=
 ⟨(h.ln p hp).1,(h.ln p hp).2,fun s hs=>⟨h.room p hp s hs,h.qW p hp s hs⟩⟩
theorem aG.bM{c:ak}(h:aG c m){f:cF->cF}(hp:p<c.procs.length)(hl:sm c (f (aB m p)).ss (f (aB m p)).lc)
 (ht:(0<=(f (aB m p)).timer/\(f (aB m p)).timer<=m.tick+1099511627776)/\0<=(f (aB m p)).bE/\(f (aB m p)).bE<=m.tick+1099511627776):aG c (m.bM p f):=by
 have pg:p<m.pr.length:=by rw [h.nq];exact hp
 have key:∀(P:cF->Prop),P (f (aB m p))->(∀q,q<c.procs.length->P (aB m q))->∀q,q<c.procs.length->P (aB (m.bM p f) q):=fun P h1 h2 q hq=>by
  rw [pJ pg];split
  ·exact h1
  ·exact h2 q hq
 exact ⟨h.np,by rw [zJ];exact h.nq,h.t0,h.lk,h.own,h.rG,h.cur,h.log,h.uB,key (fun x=>aL.nj x.ss x.lc/\x.ss.length=c.labels.length+1) ⟨hl.good,hl.len⟩ h.ln,
  key (fun x=>∀s∈x.ss,(s.room:Int)=c.lane) (fun s hs=>(hl.each s hs).1) h.room,key (fun x=>∀s∈x.ss,∀y∈s.ws,jg c y.1) (fun s hs=>(hl.each s hs).2) h.qW,
  key (fun x=>(0<=x.timer/\x.timer<=m.tick+1099511627776)/\0<=x.bE/\x.bE<=m.tick+1099511627776) ht h.vG⟩
theorem aG.CE{c:ak}(h:aG c m){f:cF->cF}(hp:p<c.procs.length)(h1:∀x,(f x).timer=x.timer)(h2:∀x,(f x).bE=x.bE)(h3:∀x,(f x).ss=x.ss)(h4:∀x,(f x).lc=x.lc):aG c (m.bM p f):=
 h.bM hp (by rw [h3,h4];exact h.ls hp) (by rw [h1,h2];exact h.vG p hp)
theorem aG.dO{c:ak}(h:aG c m){i:Nat}{f:fg->fg}(hi:i<c.labels.length)(h1:aV.fw (f (aM m i)).os (f (aM m i)).qs/\((f (aM m i)).os.length:Int)=c.aF)(h2:∀o∈(f (aM m i)).os,o=-1\/jg c o)(h3:∀k x,x∈aV.aW (f (aM m i)).qs k->jg c x)
 (h4:(f (aM m i)).cur=0\/(f (aM m i)).cur<(aQ c i).length)(h5:((f (aM m i)).log.length:Int)<=c.log)(h6:(0<=(f (aM m i)).lost/\(f (aM m i)).lost<=65535)/\0<=(f (aM m i)).fC/\(f (aM m i)).fC<=65535):aG c (m.dO i f):=by
 have gj:i<m.pt.length:=by rw [h.np];exact hi
 have key:∀(P:Nat->fg->Prop),P i (f (aM m i))->(∀q,q<c.labels.length->P q (aM m q))->∀q,q<c.labels.length->P q (aM (m.dO i f) q):=fun P h1 h2 q hq=>by
  rw [Jn gj];split
  ·next e=>rw [e];exact h1
  ·exact h2 q hq
 exact ⟨by rw [lenT_modT];exact h.np,h.nq,h.t0,key (fun _ x=>aV.fw x.os x.qs/\(x.os.length:Int)=c.aF) h1 h.lk,key (fun _ x=>∀o∈x.os,o=-1\/jg c o) h2 h.own,key (fun _ x=>∀k y,y∈aV.aW x.qs k->jg c y) h3 h.rG,
  key (fun i x=>x.cur=0\/x.cur<(aQ c i).length) h4 h.cur,key (fun _ x=>(x.log.length:Int)<=c.log) h5 h.log,key (fun _ x=>(0<=x.lost/\x.lost<=65535)/\0<=x.fC/\x.fC<=65535) h6 h.uB,h.ln,h.room,h.qW,h.vG⟩
theorem aG.told{c:ak}(h:aG c m)(hp:p<c.procs.length)(v:Int):aG c (zV c m p v):=h.CE hp (fun _=>rfl) (fun _=>rfl) (fun _=>rfl) (fun _=>rfl)
theorem aG.goOn{c:ak}(h:aG c m)(hp:p<c.procs.length):aG c (xT m p):=h.CE hp (fun _=>rfl) (fun _=>rfl) (fun _=>rfl) (fun _=>rfl)
theorem aG.J_{c:ak}(h:aG c m)(hp:p<c.procs.length){f:cF->cF}(hl:sm c (f (aB m p)).ss (f (aB m p)).lc)(h1:∀x,(f x).timer=x.timer)(h2:∀x,(f x).bE=x.bE):aG c (m.bM p f):=
 h.bM hp hl (by rw [h1,h2];exact h.vG p hp)
theorem OL{c:ak}{p:Int}(h:jg c p):p.toNat<c.procs.length:=by
 obtain ⟨h1,h2⟩:=h;omega
open aV
structure jF(c:ak)(os:List Int)(qs:List (List Int)):Prop where
 good:fw os qs
 len:(os.length:Int)=c.aF
 own:∀o∈os,o=-1\/jg c o
 rG:∀k x,x∈aW qs k->jg c x
variable{m:MS}{i lc:Nat}{os:List Int}{qs:List (List Int)}
theorem aG.Ig{c:ak}(h:aG c m)(hi:i<c.labels.length):jF c (aM m i).os (aM m i).qs:=⟨(h.lk i hi).1,(h.lk i hi).2,h.own i hi,h.rG i hi⟩
theorem aG.modL{c:ak}(h:aG c m){f:fg->fg}(hi:i<c.labels.length)(hl:jF c (f (aM m i)).os (f (aM m i)).qs)(h1:∀x,(f x).cur=x.cur)(h2:∀x,(f x).log=x.log)(h3:∀x,(f x).lost=x.lost)(h4:∀x,(f x).fC=x.fC):aG c (m.dO i f):=
 h.dO hi ⟨hl.good,hl.len⟩ hl.own hl.rG (by rw [h1];exact h.cur i hi) (by rw [h2];exact h.log i hi) (by rw [h3,h4];exact h.uB i hi)
theorem aG.Pw{c:ak}(h:aG c m){f:fg->fg}(hi:i<c.labels.length)(h1:∀x,(f x).os=x.os)(h2:∀x,(f x).qs=x.qs)(h4:(f (aM m i)).cur=0\/(f (aM m i)).cur<(aQ c i).length)(h5:((f (aM m i)).log.length:Int)<=c.log)(h6:(0<=(f (aM m i)).lost/\(f (aM m i)).lost<=65535)/\0<=(f (aM m i)).fC/\(f (aM m i)).fC<=65535):aG c (m.dO i f):=by
 have hl:=h.Ig hi;exact h.dO hi (by rw [h1,h2];exact ⟨hl.good,hl.len⟩) (by rw [h1];exact hl.own) (by rw [h2];exact hl.rG) h4 h5 h6
theorem jF.tS{c:ak}(h:jF c os qs){v:Int}(hv:v=-1\/jg c v)(hc:dK c):jF c (os.set i v) qs:=
 ⟨h.good.tS (by have:=hc.k_;rcases hv with rfl|⟨h1,h2⟩<;>constructor<;>omega),by rw [aaz];exact h.len,fun o ho=>by
  rcases List.mem_or_eq_of_mem_set ho with h1|h1
  ·exact h.own o h1
  ·rw [h1];exact hv,h.rG⟩
theorem jF.wG{c:ak}(h:jF c os qs){q:List Int}(hq:q.Sublist (aW qs i)):jF c os (qs.set i q):=
 ⟨h.good.wG hq,h.len,h.own,fun k x hx=>by
  rw [F6]at hx
  split at hx
  ·exact h.rG i x (hq.subset hx)
  ·exact h.rG k x hx⟩
theorem jF.head{c:ak}(h:jF c os qs)(i:Nat):(aW qs i).headD (-1)=-1\/jg c ((aW qs i).headD (-1)):=by
 cases hq:aW qs i with
 |nil=>exact .inl rfl
 |cons x r=>exact .inr (h.rG i x (by rw [hq];exact aaA))
theorem jF.hand{c:ak}(h:jF c os qs)(hc:dK c)(i:Nat):jF c (kJ os qs i) (pT qs i):=(h.tS (h.head i) hc).wG (List.tail_sublist _)
theorem jF.away{c:ak}(h:jF c os qs)(p:Int):jF c os (nz qs p):=by
 unfold nz;split
 ·exact h.wG List.filter_sublist
 ·exact h
theorem jF.oH{c:ak}(hc:dK c):∀(l:List Int) {os:List Int} {qs:List (List Int)} {out:List (Int×Int)},jF c os qs->(∀g∈out,g.2=-1\/jg c g.2)->jF c (aV.oH l os qs out).1 (aV.oH l os qs out).2.1/\∀g∈(aV.oH l os qs out).2.2,g.2=-1\/jg c g.2
 |[],_,_,_,h,ho=>⟨h,ho⟩
 |i::r,os,qs,out,h,ho=>by
  unfold aV.oH;refine jF.oH hc r (h.hand hc _) (fun g hg=> ?_);rcases aaX.1 hg with h1|h1
  ·exact ho g h1
  ·rw [aaL]at h1;rw [h1];rcases aaU i.toNat (kJ os qs i.toNat).length with h2|h2
   ·exact (h.hand hc _).own _ (NG h2)
   ·exact .inl (UN h2)
theorem jF.over{c:ak}(h:jF c os qs)(hc:dK c)(p:Int):jF c (qM os qs p).1 (qM os qs p).2.1/\∀g∈(qM os qs p).2.2,g.2=-1\/jg c g.2:=
 jF.oH hc _ (h.away p) (fun _ hg=>absurd hg aaF)
theorem BP:∀(n:Nat) (l:List Int),l.Nodup->(∀x∈l,0<=x/\x<(n:Int))->l.length<=n
 |0,l,_,h=>by
  rcases l with _|⟨x,r⟩
  ·exact aag _
  ·have:=h x aaA;omega
 |n+1,l,hd,h=>by
  have ih:=BP n (l.filter (fun x=>decide (x≠(n:Int)))) (hd.filter _) (fun x hx=>by
   obtain ⟨h1,h2⟩:=List.mem_filter.1 hx;have:=h x h1;simp at h2
   omega)
  have hc:l.length<=(l.filter (fun x=>decide (x≠(n:Int)))).length+1:=by
   clear ih h
   induction l with
   |nil=>simp
   |cons y r ih=>
    have qT:=List.nodup_cons.1 hd;by_cases e:y=(n:Int)
    ·have:r.filter (fun x=>decide (x≠(n:Int)))=r:=by
      rw [List.filter_eq_self];intro z hz;simp only [decide_eq_true_eq];intro ez;exact qT.1 (by rw [e,<-ez];exact hz)
     rw [abt,aaf (by simp [e]),this];simp
    ·rw [abt,aah (by simp [e])];have:=ih qT.2;simp only [List.length_cons];omega
  omega
theorem jF.total{c:ak}(h:jF c os qs)(hc:dK c):aV.total qs<=256:=by
 have h8:qs.length<=8:=by rw [h.good.n];exact h.good.le
 have hq:∀q∈qs,q.length<=32:=fun q hq=>by
  obtain ⟨i,hi,e⟩:=aaZ hq;have ea:aW qs i=q:=by unfold aW;rw [aac,aad hi,e];rfl
  have h1:=BP c.procs.length q (by rw [<-ea];exact h.good.nd i) (fun x hx=>h.rG i x (by rw [ea];exact hx));have:=hc.k_;omega
 unfold aV.total;clear h;have key:∀l:List (List Int),(∀q∈l,q.length<=32)->(l.map List.length).sum<=32*l.length:=fun l=>by
  induction l with
  |nil=>simp
  |cons x r ih=>
   intro hx;have h1:=ih (fun q hq=>hx q (aaw _ hq));have h2:=hx x aaA;simp only [List.map_cons,List.sum_cons,List.length_cons];omega
 have:=key qs hq;omega
theorem sm.few{c:ak}{ss:List aL.LS}(h:sm c ss lc)(hc:dK c):∀s∈ss,s.ws.length<=32:=fun s hs=>by
 have h1:=BP c.procs.length (s.ws.map (·.1)) (h.good.each s hs).may.2.2.1 (fun x hx=>by
  obtain ⟨y,hy,rfl⟩:=abm.1 hx
  exact (h.each s hs).2 y hy)
 have:=hc.k_;simp at h1;omega
theorem sm.Li{c:ak}{ss:List aL.LS}(h:sm c ss lc)(hc:dK c):(ss.flatMap (·.ws)).length<=288:=by
 have h9:=h.good.n2;have hf:=h.few hc;clear h;have key:∀l:List aL.LS,(∀s∈l,s.ws.length<=32)->(l.flatMap (·.ws)).length<=32*l.length:=fun l=>by
  induction l with
  |nil=>simp
  |cons x r ih=>
   intro hx;have h1:=ih (fun q hq=>hx q (aaw _ hq));have h2:=hx x aaA;simp only [List.flatMap_cons,List.length_append,List.length_cons];omega
 have:=key ss hf;omega
section
variable{w w':World} {l:Lay} {m:MS} {U:Nat->Prop} {p i:Nat}
theorem Mk.zP(h:Mk w l U m)(hp:p<l.c.procs.length):w.heap[l.bq p]?=some (.cells (rI l p (aB m p)) 173 (0,0)):=by
 obtain ⟨Fs,h1,_⟩:=h;exact (h1.cmp (.proc p) hp).1
theorem Mk.headAt(h:Mk w l U m):w.heap[l.bm]?=some (.cells (QQ l m.tick) 163 (0,0)):=by
 obtain ⟨Fs,h1,_⟩:=h;exact (h1.cmp .head trivial).1
theorem Mk.partsAt(h:Mk w l U m):Row w 166 1 l.ap l.c.labels.length l.cp (lU ((List.range l.c.labels.length).map l.bp)):=by
 obtain ⟨Fs,h1,_⟩:=h;exact (h1.cmp .head trivial).2.1
theorem Mk.procsAt(h:Mk w l U m):Row w 168 1 l.aq l.c.procs.length l.cq (lU ((List.range l.c.procs.length).map l.bq)):=by
 obtain ⟨Fs,h1,_⟩:=h;exact (h1.cmp .head trivial).2.2.1
theorem Ul{n i:Nat}{f:Nat->Nat}(h:i<n):((List.range n).map f).getD i 0=f i:=by
 rw [aac,aaK,List.getElem?_range h];rfl
theorem Mk.UW(h:Mk w l U m)(hi:i<l.c.labels.length):∃g,l.ap=some ⟨g,0,none⟩/\w.cell? ⟨g,i,none⟩=some (.pointer (some ⟨l.bp i,0,none⟩)):=by
 obtain ⟨g,e,hc⟩:=h.partsAt.cell i (by omega);exact ⟨g,e,by rw [hc,J2 _ i (by simpa using hi),Ul hi]⟩
theorem Mk.Ga(h:Mk w l U m)(hp:p<l.c.procs.length):∃g,l.aq=some ⟨g,0,none⟩/\w.cell? ⟨g,p,none⟩=some (.pointer (some ⟨l.bq p,0,none⟩)):=by
 obtain ⟨g,e,hc⟩:=h.procsAt.cell p (by omega);exact ⟨g,e,by rw [hc,J2 _ p (by simpa using hp),Ul hp]⟩
theorem Mk.partAt(h:Mk w l U m)(hi:i<l.c.labels.length):∃la lc,w.heap[l.bp i]?=some (.cells (rH l i (aM m i) la lc) 178 (0,0))/\Row w 168 1 (l.ar i) (aQ l.c i).length (l.cr i) (lU ((aQ l.c i).map l.bq))/\Row w 138 3 la (aM m i).log.length lc (mU (aM m i).log):=by
 obtain ⟨Fs,h1,_⟩:=h;obtain ⟨la,lc,a,b,c,_⟩:=h1.cmp (.part i) hi;exact ⟨la,lc,a,b,c⟩
structure Dc(w:World)(l:Lay)(p:Nat)(x:cF):Prop where
 c0:w.cell? ⟨l.bq p,0,none⟩=some (.int .i64 (p:Int))
 c1:w.cell? ⟨l.bq p,1,none⟩=some (.pointer (some ⟨l.bp (pa l.c p),0,none⟩))
 c2:w.cell? ⟨l.bq p,2,none⟩=some (.slice (sQ l p).a (cd l.c p).length (sQ l p).c)
 c3:w.cell? ⟨l.bq p,3,none⟩=some (.int .i64 x.st)
 c4:w.cell? ⟨l.bq p,4,none⟩=some (.int .i64 x.core.pc)
 c5:w.cell? ⟨l.bq p,5,none⟩=some (.int .i64 (x.core.r 0))
 c6:w.cell? ⟨l.bq p,6,none⟩=some (.int .i64 (x.core.r 1))
 c7:w.cell? ⟨l.bq p,7,none⟩=some (.int .i64 (x.core.r 2))
 c8:w.cell? ⟨l.bq p,8,none⟩=some (.int .i64 (x.core.r 3))
 c9:w.cell? ⟨l.bq p,9,none⟩=some (.int .i64 (x.core.r 4))
 lV:w.cell? ⟨l.bq p,10,none⟩=some (.int .i64 (x.core.r 5))
 lW:w.cell? ⟨l.bq p,11,none⟩=some (.int .i64 (x.core.r 6))
 lX:w.cell? ⟨l.bq p,12,none⟩=some (.int .i64 (x.core.r 7))
 j_:w.cell? ⟨l.bq p,13,none⟩=some (.bool x.fired)
 kM:w.cell? ⟨l.bq p,14,none⟩=some (.pointer (some ⟨l.bo p,0,none⟩))
 fr:∀i,w.frozen? ⟨l.bq p,i,none⟩=false
theorem prC_of{x:cF}(h:w.heap[l.bq p]?=some (.cells (rI l p x) 173 (0,0))):Dc w l p x:=by
 constructor
 case fr=>intro i;simp [World.frozen?,h]
 all_goals (rw [aaa _ _ _ _ _ _ h];rfl)
theorem Mk.dS(h:Mk w l U m)(hp:p<l.c.procs.length):Dc w l p (aB m p):=prC_of (h.zP hp)
theorem Mk.DT(h:Mk w l U m)(hs:aG l.c m)(hp:p<l.c.procs.length){f:cF->cF}(h1:∀x,(f x).timer=x.timer)(h2:∀x,(f x).bE=x.bE)(h3:∀x,(f x).ss=x.ss)(h4:∀x,(f x).lc=x.lc)
 (hm:Mod (fun k=>k=l.bq p) w w')(hh:w'.heap[l.bq p]?=some (.cells (rI l p (f (aB m p))) 173 (0,0))):dm w l U (m.bM p f) w':=by
 have pg:p<m.pr.length:=by rw [hs.nq];exact hp
 obtain ⟨F,⟨hb,hF⟩,_,fG⟩:=h.open_ (.proc p) hp;refine fG w' _ (fun k=>k=l.bq p) (hm.mono (fun k _ e=>by rw [e];exact hF)) ⟨by rw [DL pg];exact hh,rfl⟩ (fun k e=> .inl (by rw [e];exact hF)) (fun k e=>by rw [e];exact (aab.1 hh).1) (fun y hy=>agr_proc h1 h2 h3 h4 pg hy)
end
def To(w:World)(U:Nat->Prop)(w':World)(U':Nat->Prop):Prop:=Mod U w w'/\∀k,U' k->U k\/w.heap.size<=k
theorem To.refl(w:World)(U:Nat->Prop):To w U w U:=⟨Mod.refl _ _,fun _ h=> .inl h⟩
variable{w w1 w2 w' W:World}{U U1:Nat->Prop}{l:Lay}{m:MS}{p:Nat}
theorem To.trans{U2:Nat->Prop}(h:To w U w1 U1)(k:To w1 U1 w2 U2):To w U w2 U2:=
 ⟨h.1.trans k.1 h.2,fun i hi=>by
  rcases k.2 i hi with h1|h1
  ·exact h.2 i h1
  ·exact .inr (aai h.1.size h1)⟩
theorem To.au(h:To w U w1 U1)(hb:Below w1.heap.size w1 w2):To w U w2 U1:=h.trans ⟨Mod.aS _ hb,fun _ h=> .inl h⟩
theorem To.of_bel(hb:Below w.heap.size w w1):To w U w1 U:=(To.refl w U).au hb
theorem dm.get(h:dm w l U m w'):∃U',To w U w' U'/\Mk w' l U' m:=by
 obtain ⟨a,U',b,c⟩:=h;exact ⟨U',⟨a,c⟩,b⟩
theorem To.out(t:To w U w1 U1)(h:dm w1 l U1 m w2):dm w l U m w2:=by
 obtain ⟨U2,t2,k⟩:=h.get;have:=t.trans t2;exact ⟨this.1,U2,k,this.2⟩
theorem To.mk{U':Nat->Prop}(t:To w U w' U')(h:Mk w' l U' m):dm w l U m w':=⟨t.1,U',h,t.2⟩
theorem Mk.vH(h:Mk w l U m){i:Nat}(hi:i<l.c.labels.length):w.cell? ⟨l.bp i,0,none⟩=some (.int .i64 (i:Int))/\w.cell? ⟨l.bp i,1,none⟩=some (.slice (l.ar i) (aQ l.c i).length (l.cr i))/\w.cell? ⟨l.bp i,2,none⟩=some (.int .i64 ((aM m i).cur:Int))/\w.cell? ⟨l.bp i,4,none⟩=some (.int .i64 (aM m i).lost)/\w.cell? ⟨l.bp i,5,none⟩=some (.int .i64 (aM m i).fC)/\
 w.cell? ⟨l.bp i,6,none⟩=some (.pointer (some ⟨l.bl i,0,none⟩))/\w.cell? ⟨l.bp i,7,none⟩=some (.pointer (some ⟨l.bw i,0,none⟩))/\∀j,w.frozen? ⟨l.bp i,j,none⟩=false:=by
 obtain ⟨la,lc,h1,_,_⟩:=h.partAt hi;refine ⟨?_, ?_, ?_, ?_, ?_, ?_, ?_,fun j=>by simp [World.frozen?,h1]⟩<;>(rw [aaa _ _ _ _ _ _ h1];rfl)
theorem Mk.sU(h:Mk w l U m):w.cell? ⟨l.bm,2,none⟩=some (.int .i64 l.c.fuel)/\w.cell? ⟨l.bm,5,none⟩=some (.int .i64 l.c.log)/\w.cell? ⟨l.bm,7,none⟩=some (.pointer (some ⟨l.bt,0,none⟩))/\w.cell? ⟨l.bm,8,none⟩=some (.pointer (some ⟨l.bs,0,none⟩))/\
 w.cell? ⟨l.bm,9,none⟩=some (.int .i64 m.tick)/\w.cell? ⟨l.bm,10,none⟩=some (.slice l.ap l.c.labels.length l.cp)/\w.cell? ⟨l.bm,11,none⟩=some (.slice l.aq l.c.procs.length l.cq)/\∀j,w.frozen? ⟨l.bm,j,none⟩=false:=by
 have h1:=h.headAt;refine ⟨?_, ?_, ?_, ?_, ?_, ?_, ?_,fun j=>by simp [World.frozen?,h1]⟩<;>(rw [aaa _ _ _ _ _ _ h1];rfl)
def gH(W:World)(b:Nat)(c:eZ.Core):World:=
 ((((((((W.setCell ⟨b,4,none⟩ (.int .i64 c.pc)).setCell ⟨b,5,none⟩ (.int .i64 (c.r 0))).setCell ⟨b,6,none⟩ (.int .i64 (c.r 1))).setCell ⟨b,7,none⟩ (.int .i64 (c.r 2))).setCell ⟨b,8,none⟩ (.int .i64 (c.r 3))).setCell ⟨b,9,none⟩ (.int .i64 (c.r 4))).setCell ⟨b,10,none⟩ (.int .i64 (c.r 5))).setCell ⟨b,11,none⟩ (.int .i64 (c.r 6))).setCell ⟨b,12,none⟩ (.int .i64 (c.r 7))
theorem dP(W:World)(b o:Nat)(u:Value):Mod (fun k=>k=b) W (W.setCell ⟨b,o,none⟩ u):=(Mod.refl (fun k=>k=b) W).setCell (.inl rfl) u
theorem dz{V:World}{b:Nat}(h:Mod (fun k=>k=b) W V)(o:Nat)(u:Value):Mod (fun k=>k=b) W (V.setCell ⟨b,o,none⟩ u):=h.setCell (.inl rfl) u
theorem FT(W:World)(b:Nat)(c:eZ.Core):Mod (fun k=>k=b) W (gH W b c):=by
 unfold gH
 iterate 8 refine dz ?_ _ _
 exact dP _ _ _ _
theorem UX(v0 v1 v2 v3 v4 v5 v6 v7 v8 v9 v10 v11 v12 v13 v14 u4 u5 u6 u7 u8 u9 u10 u11 u12:Value):(((((((((#[v0,v1,v2,v3,v4,v5,v6,v7,v8,v9,v10,v11,v12,v13,v14].setIfInBounds 4 u4).setIfInBounds 5 u5).setIfInBounds 6 u6).setIfInBounds 7 u7).setIfInBounds 8 u8).setIfInBounds 9 u9).setIfInBounds 10 u10).setIfInBounds 11 u11).setIfInBounds 12 u12)=#[v0,v1,v2,v3,u4,u5,u6,u7,u8,u9,u10,u11,u12,v13,v14]:=by simp
theorem NV{x:cF}(h:W.heap[l.bq p]?=some (.cells (rI l p x) 173 (0,0)))(c:eZ.Core):(gH W (l.bq p) c).heap[l.bq p]?=some (.cells (rI l p {x with core:=c}) 173 (0,0)):=by
 unfold gH;have h1:=aU (i:=12) (aU (i:=11) (aU (i:=10) (aU (i:=9) (aU (i:=8) (aU (i:=7) (aU (i:=6) (aU (i:=5) (aU (i:=4) h (.int .i64 c.pc)) (.int .i64 (c.r 0))) (.int .i64 (c.r 1))) (.int .i64 (c.r 2))) (.int .i64 (c.r 3))) (.int .i64 (c.r 4))) (.int .i64 (c.r 5))) (.int .i64 (c.r 6))) (.int .i64 (c.r 7));rw [h1];unfold rI;rw [UX]
theorem JQ{x:cF}(h:W.heap[l.bq p]?=some (.cells (rI l p x) 173 (0,0)))(s:Int):(W.setCell ⟨l.bq p,3,none⟩ (.int .i64 s)).heap[l.bq p]?=some (.cells (rI l p {x with st:=s}) 173 (0,0)):=by
 rw [aU h];rfl
theorem UY{x:cF}(h:W.heap[l.bq p]?=some (.cells (rI l p x) 173 (0,0)))(s:Bool):(W.setCell ⟨l.bq p,13,none⟩ (.bool s)).heap[l.bq p]?=some (.cells (rI l p {x with fired:=s}) 173 (0,0)):=by
 rw [aU h];rfl
theorem Mk.YZ(h:Mk w l U m)(hp:p<l.c.procs.length):oL w (sQ l p).a (cd l.c p):=by
 have hb:=h.base;have hl:=hb.cf.len;have Ea:l.g.ms.getD p default∈l.g.ms:=by
  rw [aac,aad (by omega)];exact aaG _
 have:=hb.cf.yx _ Ea;rw [hb.cf.at]at this;exact MW this
theorem fu(w:World):Below w.heap.size w w.drew:=(aak _ w).drew
theorem cC(h:Below w.drew.heap.size w.drew w1):Below w.heap.size w w1:=(fu w).trans (h.mono (aag _))
theorem prg_draw{a:Option Addr}{l:List Ins}(h:oL w a l):oL w.drew a l:=h.kept (fu w)
section
variable{w w':World} {l:Lay} {m:MS} {U:Nat->Prop} {p:Nat}
theorem Um(h:Mk w l U m)(hs:aG l.c m)(hp:p<l.c.procs.length):Calls prog 150 #[.pointer (some ⟨l.bq p,0,none⟩)] w fun e w'=>e=.returned (.tuple #[])/\dm w l U (xT m p) w':=by
 have hc:=h.dS hp;have hn:=eZ.DQ (aB m p).core w
 have HE:Hid (∀w1,Below w.heap.size w w1->dm w l U (xT m p) (gH (w1.setCell ⟨l.bq p,3,none⟩ (.int .i64 0)) (l.bq p) (aB m p).core.next)):=hd (fun w1 hb=>by
  refine dm.ahead hb ((h.below hb).DT hs hp (f:=fun x=>{x with st:=0,core:=x.core.next}) (fun _=>rfl) (fun _=>rfl) (fun _=>rfl) (fun _=>rfl) ((dP _ _ _ _).trans (FT _ _ _) (fun k hk=> .inl hk)) ?_)
  exact NV (JQ ((h.below hb).zP hp) 0) _)
 have HB:Hid (∀w1,Below w.heap.size w w1->Dc w1 l p (aB m p)):=hd (fun w1 hb=>(h.below hb).dS hp);obtain ⟨c0,c1,c2,c3,c4,c5,c6,c7,c8,c9,lV,lW,lX,j_,kM,fr⟩:=hc;clear h hs hp;generalize (aB m p).core.next=D at*
 generalize aB m p=x at*
 unfold eZ.fH eZ.cT at hn;go_enter func150,ntmps150;go_wp2_with (go_at_call 182;refine hn.mono ?_;rintro e w1 ⟨rfl,b1⟩;clear hn c0 c1 c2 c3 c4 c5 c6 c7 c8 c9 lV lW lX j_ kM fr;obtain ⟨c0,c1,c2,c3,c4,c5,c6,c7,c8,c9,lV,lW,lX,j_,kM,fr⟩:=HB.out w1 b1);unfold gH at HE;go_end0;exact ⟨rfl,HE.out w1 b1⟩
theorem told_m(h:Mk w l U m)(hs:aG l.c m)(hp:p<l.c.procs.length)(v:Int):Calls prog 169 #[.pointer (some ⟨l.bq p,0,none⟩),.int .i64 v] w fun e w'=>e=.returned (.tuple #[])/\dm w l U (zV l.c m p v) w':=by
 have hc:=h.dS hp;have hn:=eZ.told_any (aB m p).core (sQ l p).a (cd l.c p) (sQ l p).c v w.drew (prg_draw (h.YZ hp))
 have HE:Hid (∀w1,Below w.heap.size w w1->dm w l U (zV l.c m p v) (gH (w1.setCell ⟨l.bq p,3,none⟩ (.int .i64 0)) (l.bq p) (eZ.D3 (aB m p).core (cd l.c p) v))):=hd (fun w1 hb=>by
  refine dm.ahead hb ((h.below hb).DT hs hp (f:=fun x=>{x with st:=0,core:=eZ.D3 x.core (cd l.c p) v}) (fun _=>rfl) (fun _=>rfl) (fun _=>rfl) (fun _=>rfl) ((dP _ _ _ _).trans (FT _ _ _) (fun k hk=> .inl hk)) ?_)
  exact NV (JQ ((h.below hb).zP hp) 0) _)
 have HB:Hid (∀w1,Below w.heap.size w w1->Dc w1 l p (aB m p)):=hd (fun w1 hb=>(h.below hb).dS hp);obtain ⟨c0,c1,c2,c3,c4,c5,c6,c7,c8,c9,lV,lW,lX,j_,kM,fr⟩:=hc;clear h hs hp;generalize eZ.D3 (aB m p).core (cd l.c p) v=D at*
 generalize aB m p=x at*
 unfold eZ.fH eZ.cT at hn;go_enter func169,ntmps169;go_region_law (first|(go_simp;with_reducible refine hn.mono ?_;rintro e w1 ⟨rfl,b1⟩;clear hn c0 c1 c2 c3 c4 c5 c6 c7 c8 c9 lV lW lX j_ kM fr;obtain ⟨c0,c1,c2,c3,c4,c5,c6,c7,c8,c9,lV,lW,lX,j_,kM,fr⟩:=HB.out w1 (cC b1)));unfold gH at HE;all_goals go_end0
 all_goals exact ⟨rfl,HE.out w1 (cC b1)⟩
theorem rouse_any(h:Mk w l U m)(hs:aG l.c m)(hp:p<l.c.procs.length):Calls prog 151 #[.pointer (some ⟨l.bq p,0,none⟩)] w fun e w'=>e=.returned (.tuple #[])/\dm w l U (Cf m p) w':=by
 have pg:p<m.pr.length:=by rw [hs.nq];exact hp
 obtain ⟨c0,c1,c2,c3,c4,c5,c6,c7,c8,c9,lV,lW,lX,j_,kM,fr⟩:=h.dS hp;by_cases e:(aB m p).st=1
 ·have HE:Hid (dm w l U (Cf m p) (w.setCell ⟨l.bq p,3,none⟩ (.int .i64 0))):=hd (h.DT hs hp (f:=fun x=>{x with st:=if x.st=1 then 0 else x.st}) (fun _=>rfl) (fun _=>rfl) (fun _=>rfl) (fun _=>rfl) (dP _ _ _ _) (by rw [JQ (h.zP hp) 0,aah e]));rw [e]at c3;clear h hs hp pg e;go_enter func151,ntmps151
  go_wp2
  go_end0;exact ⟨rfl,HE.out⟩
 ·have HE:Hid (dm w l U (Cf m p) w):=hd (by
   have:Cf m p=m:=modP_id pg (by rw [aaf e]);rw [this]
   exact h.out (aak _ _))
  have e1:((aB m p).st==1)=false:=by simpa using e
  clear h hs hp pg e;go_enter func151,ntmps151
  go_wp2
  go_end0;exact ⟨rfl,HE.out⟩
end
section
variable{w w':World} {l:Lay} {m:MS} {U:Nat->Prop} {p i:Nat}
theorem Mk.J_(h:Mk w l U m)(hs:aG l.c m)(hp:p<l.c.procs.length):∃F,aL.Ps w 244 283 245 (l.bo p) F (aB m p).ss (aB m p).lc/\∀w' (f:cF->cF),(∀x,(f x).timer=x.timer)->(∀x,(f x).bE=x.bE)->(∀x,(f x).st=x.st)->(∀x,(f x).core=x.core)->(∀x,(f x).fired=x.fired)->
 aL.Gq w 244 283 245 (l.bo p) F (f (aB m p)).ss (f (aB m p)).lc w'->dm w l U (m.bM p f) w':=by
 have pg:p<m.pr.length:=by rw [hs.nq];exact hp
 obtain ⟨F,h1,h2,h3⟩:=h.jQ hp;refine ⟨F,h1,fun w' f a b c d e ho=> ?_⟩;obtain ⟨k1,F',k2,k3⟩:=ho;exact dm.of h2 k3 (h3 w' _ F' k1 (by rw [DL pg];exact k2) k3 (fun y hy=>UU a b c d e pg hy))
theorem ended_any(s:Int)(w:World):Calls prog 160 #[.int .i64 s] w fun e w'=>e=.returned (.bool (ended s))/\w=w':=by
 unfold ended;by_cases h1:s=5
 ·subst h1;go_enter func160,ntmps160
  go_wp2
  go_ret;exact ⟨rfl,rfl⟩
 ·by_cases h2:s=6
  ·subst h2;go_enter func160,ntmps160
   go_wp2
   go_ret;exact ⟨rfl,rfl⟩
  ·have e1:(s==5)=false:=by simpa using h1
   have e2:(s==6)=false:=by simpa using h2
   rw [show(decide (s=5)||decide (s=6))=false by simp [h1,h2]];clear h1 h2;go_enter func160,ntmps160
   go_wp2
   go_ret;exact ⟨rfl,rfl⟩
end
section
variable{w:World} {bt:Nat} {a:Option Addr} {cap:Nat} {mb:Value} {c:List Nat}
end
end Go.Proofs.YthopnfbjiifhhaaGreatDoor
