/- A state that a machine tells, as an observer's functions read it. -/
import Derived.Test.YthopnfbjiifhhaaGreatDoorGNa
import Derived.Test.YthopnfbjiifhhaaGreatDoorGVc
namespace Go.Proofs.YthopnfbjiifhhaaGreatDoor
open Go.RowKit
def I3(s:aL.LS):View.mW:=⟨s.vs,s.ws,s.tk,s.dr⟩
def I4(x:cF):View.n_:=⟨x.st,x.core.pc,⟨x.core.r 0,x.core.r 1,x.core.r 2,x.core.r 3,x.core.r 4,x.core.r 5,x.core.r 6,x.core.r 7⟩,x.lc,x.timer,x.fired,x.bE,x.ss.map I3⟩
def I5(x:fg):View.og:=⟨x.cur,x.log,x.lost,x.fC,x.os,x.qs⟩
def zC(m:MS):View.tz:=⟨m.tick,m.pt.map I5,m.pr.map I4⟩
def Ke(x:fg):Bool:=decide (x.log.length<=1000)&&decide (x.os.length<=1000)&&decide (x.qs.length<=1000)&&x.qs.all (fun q=>decide (q.length<=1000))
def Kf(x:cF):Bool:=decide (x.ss.length<=1000)&&x.ss.all (fun s=>decide (s.vs.length<=1000)&&decide (s.ws.length<=1000))
def yl(m:MS):Bool:=decide (m.pt.length<=1000)&&decide (m.pr.length<=1000)&&m.pt.all Ke&&m.pr.all Kf
variable{w:World}{a:Option Addr}{c:Nat}{m:MS}
theorem xQ{α β:Type}[Inhabited α]{sz:Nat}{E:World->List Value->α->Prop}{ts:List β}(f:β->List Value)(g:β->α)(h:Rd w a (ts.flatMap f))(hl:ts.length<=1000)(hE:∀t∈ts,(f t).length=sz/\E w (f t) (g t)):View.b_ sz E w (.slice a ts.length c) (ts.map g):=
 ⟨a,c,ts.map f,by simp,by rw [<-List.flatMap_def];exact h,by simp,by simp [View.iD];omega,fun i hi=>by
  have hi:i<ts.length:=by simpa using hi
  have:=hE _ (aaG hi)
  simpa [List.getD_eq_getElem?_getD,hi]using this⟩
theorem N9{l:List Int}(h:Rd w a (l.map (Value.int .i64 ·)))(hl:l.length<=1000):View.b_ 1 View.iE w (.slice a l.length c) l:=by
 have:=xQ (sz:=1) (E:=View.iE) (w:=w) (a:=a) (c:=c) (ts:=l) (fun x=>[.int .i64 x]) id (by rw [<-List.map_eq_flatMap];exact h) hl (fun t _=>⟨rfl,rfl⟩)
 rwa [List.map_id]at this
theorem ln_of{t:aL.eD}(h:aL.AL w t.vs t.ws t.a1 t.a2)(h1:t.vs.length<=1000)(h2:t.ws.length<=1000):View.lE w (aL.C8 t) ⟨t.vs,t.ws,t.tk,t.dr⟩:=by
 refine ⟨_,_,rfl,N9 h.1 h1, ?_⟩;have:=xQ (sz:=2) (E:=View.wE) (w:=w) (a:=t.a2) (c:=t.c2) (ts:=t.ws) aL.wP id h.2 h2 (fun t _=>⟨rfl,rfl⟩)
 rwa [List.map_id]at this
theorem pt_of{t:iM}(h:Di w t)(hf:Ke t.x=true):View.pE w (lh t) (I5 t.x):=by
 unfold Ke at hf;simp only [Bool.and_eq_true,decide_eq_true_eq,List.all_eq_true]at hf;obtain ⟨⟨⟨f1,f2⟩,f3⟩,f4⟩:=hf;refine ⟨_,_,_,rfl, ?_,N9 h.own f2, ?_⟩
 ·have:=xQ (sz:=3) (E:=View.eE) (w:=w) (a:=t.la) (c:=t.lc) (ts:=t.x.log) Lf id h.log f1 (fun t _=>⟨rfl,rfl⟩)
  rwa [List.map_id]at this
 ·have hq:=h.qs;have bC:=h.ne
  have:=xQ (sz:=1) (E:=View.qE) (w:=w) (a:=t.qa) (c:=t.qc) (ts:=t.es) (fun e=>[aV.sV e]) (·.2.2) (by rw [<-List.map_eq_flatMap];exact h.ql.row) (by omega) (fun e he=>by
   obtain ⟨i,hi,rfl⟩:=aaZ he;have hr:=h.ql.qs i hi;have ee:aV.bN t.es i=t.es[i]:=by unfold aV.bN;rw [aac,aad hi];rfl
   rw [ee]at hr;refine ⟨rfl,_,rfl,N9 hr (f4 _ ?_)⟩;rw [<-hq]
   exact abk (aaG hi))
  rw [bC]at this;rw [show t.es.map (·.2.2)=t.x.qs from hq]at this;exact this
theorem pr_of{room:Nat}{t:iN}(h:Be w room t)(hf:Kf t.x=true):View.rE w (lz t) (I4 t.x):=by
 unfold Kf at hf;simp only [Bool.and_eq_true,decide_eq_true_eq,List.all_eq_true]at hf;obtain ⟨f1,f2⟩:=hf;have hs:=h.ss;have hl:t.ls.length=t.x.ss.length:=by rw [<-hs];simp
 have:=xQ (sz:=4) (E:=View.lE) (w:=w) (a:=t.la) (c:=t.lc) (ts:=t.ls) aL.C8 (fun u=>(⟨u.vs,u.ws,u.tk,u.dr⟩:View.mW)) h.rd.rd (by omega) (fun u hu=>by
  have:=f2 (u.ls room) (by rw [<-hs];exact abk hu)
  exact ⟨rfl,ln_of (h.rd.el u hu) this.1 this.2⟩)
 rw [hl]at this;refine ⟨_,rfl, ?_⟩;have e:t.ls.map (fun u=>(⟨u.vs,u.ws,u.tk,u.dr⟩:View.mW))=t.x.ss.map I3:=by rw [<-hs,List.map_map];rfl
 rw [e]at this;exact this
theorem st_of{room:Nat}{ps:List iM}{qs:List iN}{b:Option Addr}{d:Nat}(h:Rm w room m ps a qs b)(hf:yl m=true):View.sE w [.int .i64 m.tick,.slice a m.pt.length c,.slice b m.pr.length d] (zC m):=by
 unfold yl at hf;simp only [Bool.and_eq_true,decide_eq_true_eq,List.all_eq_true]at hf;obtain ⟨⟨⟨f1,f2⟩,f3⟩,f4⟩:=hf;have hp:=h.np;have hq:=h.nq;have lp:ps.length=m.pt.length:=by rw [<-hp];simp
 have lq:qs.length=m.pr.length:=by rw [<-hq];simp
 have k1:=xQ (sz:=6) (E:=View.pE) (w:=w) (a:=a) (c:=c) (ts:=ps) lh (fun t=>I5 t.x) h.rp (by omega) (fun t ht=>by
  obtain ⟨i,hi,rfl⟩:=aaZ ht;have hr:=h.pp i hi;rw [aac,aad hi]at hr
  exact ⟨rfl,pt_of hr (f3 _ (by rw [<-hp];exact abk ht))⟩)
 have k2:=xQ (sz:=15) (E:=View.rE) (w:=w) (a:=b) (c:=d) (ts:=qs) lz (fun t=>I4 t.x) h.rq (by omega) (fun t ht=>by
  obtain ⟨i,hi,rfl⟩:=aaZ ht;have hr:=h.qq i hi;rw [aac,aad hi]at hr
  exact ⟨rfl,pr_of hr (f4 _ (by rw [<-hq];exact abk ht))⟩)
 rw [lp]at k1;rw [lq]at k2;refine ⟨_,_,rfl, ?_, ?_⟩
 ·show View.b_ 6 View.pE w _ (m.pt.map I5);rw [<-hp,List.map_map];rw [<-hp]at k1;exact k1
 ·show View.b_ 15 View.rE w _ (m.pr.map I4);rw [<-hq,List.map_map];rw [<-hq]at k2;exact k2
def qD(c:ak):View.l_:=⟨c.labels,c.procs.map (·.part)⟩
def Dz(c:ak)(g:Loc):List Value:=[.slice g.la c.labels.length g.lc,.slice g.ta c.table.length g.tc,.int .i64 c.fuel,.int .i64 c.lane,.int .i64 c.aF,.int .i64 c.log,.slice g.pa c.procs.length g.pc]
theorem Gv{c:ak}{g:Loc}(h:fD w c g)(h1:c.labels.length<=1000)(h2:c.procs.length<=1000)(hl:∀x∈c.labels,x<18446744073709551616):View.fE w (Dz c g) (qD c):=by
 refine ⟨_,_,_,_,_,_,_,rfl, ?_, ?_⟩
 ·have:=xQ (sz:=1) (E:=View.uE) (w:=w) (a:=g.la) (c:=g.lc) (ts:=c.labels) (fun x=>[.int .u64 (x:Int)]) id (by
   have:=h.pY;unfold fJ at this
   rwa [List.map_eq_flatMap]at this) h1 (fun t ht=>⟨rfl,rfl,hl t ht⟩)
  rwa [List.map_id]at this
 ·have hm:g.ms.length=c.procs.length:=h.len;have:=xQ (sz:=2) (E:=View.cE) (w:=w) (a:=g.pa) (c:=g.pc) (ts:=g.ms) (fun m=>[.int .i64 m.p.part,.slice m.a m.p.code.length m.c]) (·.p.part) h.oN (by omega) (fun t _=>⟨rfl,_,rfl⟩);rw [hm]at this;have e:g.ms.map (·.p.part)=c.procs.map (·.part):=by
   rw [<-h.ps];simp [dD]
  rw [e]at this;exact this
theorem few_of(hf:yl m=true):View.WB (zC m):=by
 unfold yl at hf;simp only [Bool.and_eq_true,decide_eq_true_eq,List.all_eq_true]at hf;obtain ⟨⟨⟨f1,f2⟩,f3⟩,f4⟩:=hf;refine ⟨by simp [zC];omega,by simp [zC];omega,fun j=> ?_,fun j=> ?_⟩
 ·show View.OW ((m.pt.map I5).getD j default);rw [aac,aaK]
  cases e:m.pt[j]? with
  |none=>exact ⟨aaq _,aaq _,aaq _,fun _=>aaq _⟩
  |some t=>
   have:=f3 t (aba e);unfold Ke at this;simp only [Bool.and_eq_true,decide_eq_true_eq,List.all_eq_true]at this;obtain ⟨⟨⟨g1,g2⟩,g3⟩,g4⟩:=this;refine ⟨aai g1 (by decide),aai g2 (by decide),aai g3 (by decide),fun i=> ?_⟩;show(t.qs.getD i default).length<=_;rw [aac]
   cases e2:t.qs[i]? with
   |none=>exact aaq _
   |some q=>exact aai (g4 q (aba e2)) (by decide)
 ·show View.OX ((m.pr.map I4).getD j default);rw [aac,aaK]
  cases e:m.pr[j]? with
  |none=>exact ⟨aaq _,fun _=>⟨aaq _,aaq _⟩⟩
  |some t=>
   have:=f4 t (aba e);unfold Kf at this;simp only [Bool.and_eq_true,decide_eq_true_eq,List.all_eq_true]at this;obtain ⟨g1,g2⟩:=this;refine ⟨by show(t.ss.map I3).length<=_;rw [aa3];exact aai g1 (by decide),fun i=> ?_⟩;show((t.ss.map I3).getD i default).vs.length<=_/\((t.ss.map I3).getD i default).ws.length<=_;rw [aac,aaK]
   cases e2:t.ss[i]? with
   |none=>exact ⟨aaq _,aaq _⟩
   |some q=>
    have:=g2 q (aba e2);exact ⟨aai this.1 (by decide),aai this.2 (by decide)⟩
end Go.Proofs.YthopnfbjiifhhaaGreatDoor
