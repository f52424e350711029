/- Those whose time has come, plainly. -/
import Derived.Test.YthopnfbjiifhhaaGreatDoorGMh
set_option maxHeartbeats 4000000
set_option maxRecDepth 100000
namespace Go.Proofs.YthopnfbjiifhhaaGreatDoor
def GK(m:MS)(f:Nat->cF->cF):MS:={m with pr:=m.pr.mapIdx f}
theorem mapS_len(m:MS)(f:Nat->cF->cF):(GK m f).pr.length=m.pr.length:=by simp [GK]
theorem prOf_mapS{m:MS}{f:Nat->cF->cF}{p:Nat}(hp:p<m.pr.length):aB (GK m f) p=f p (aB m p):=by
 unfold aB GK;rw [aac,aac,List.getElem?_mapIdx,aad hp];rfl
theorem Ol{a b:MS}(h1:a.tick=b.tick)(h2:a.pt=b.pt)(h3:a.pr.length=b.pr.length)(h4:∀p,p<a.pr.length->aB a p=aB b p):a=b:=by
 obtain ⟨t,x,y⟩:=a;obtain ⟨t',x',y'⟩:=b;simp only at h1 h2 h3;subst h1 h2
 have:y=y':=List.ext_getElem h3 (fun i hi gj=>by
  have:=h4 i hi;unfold aB at this;simp only at this;rw [aac,aac,aad hi,aad gj]at this
  exact this)
 rw [this]
theorem Ns{now:Int}{L out L':List aZ.Th}(h:aZ.oI now L out L')(hg:aZ.gA L):(∀t,t∈out↔t∈L/\t.1<=now)/\(∀t,t∈L'↔t∈L/\now<t.1)/\(out.map (·.2)).Nodup:=by
 induction h with
 |none=>simp
 |late hm hl=>
  have key:∀t∈_,_:=fun t ht=>hm.2 t ht
  refine ⟨fun t=>⟨fun ht=>absurd ht aaF,fun⟨ht,hle⟩=> ?_⟩,fun t=>⟨fun ht=>⟨ht, ?_⟩,fun h=>h.1⟩,List.nodup_nil⟩
  ·have:=hm.2 t ht;unfold aZ.cZ at this;omega
  ·have:=hm.2 t ht;unfold aZ.cZ at this;omega
 |one hm hl _ ih=>
  obtain ⟨i1,i2,i3⟩:=ih (hg.jq _)
  rename_i L out L' x _
  refine ⟨fun t=> ?_,fun t=> ?_, ?_⟩
  ·rw [aa0,i1,aZ.pK];constructor
   ·rintro (rfl|⟨⟨h1,_⟩,h2⟩)
    ·exact ⟨hm.1,hl⟩
    ·exact ⟨h1,h2⟩
   ·rintro ⟨h1,h2⟩;by_cases e:t.2=x.2
    ·exact .inl (hg.uniq h1 hm.1 e)
    ·exact .inr ⟨⟨h1,e⟩,h2⟩
  ·rw [i2,aZ.pK];constructor
   ·rintro ⟨⟨h1,_⟩,h2⟩;exact ⟨h1,h2⟩
   ·rintro ⟨h1,h2⟩;refine ⟨⟨h1,fun e=> ?_⟩,h2⟩;have:=hg.uniq h1 hm.1 e;rw [this]at h2;omega
  ·rw [List.map_cons,List.nodup_cons];refine ⟨fun hx=> ?_,i3⟩;obtain ⟨t,ht,e⟩:=abm.1 hx;exact (aZ.pK.1 ((i1 t).1 ht).1).2 e
def wj(tick:Int)(x:cF):cF:={x with timer:=if 0<x.timer/\x.timer<=tick then 0 else x.timer,bE:=if 0<x.bE/\x.bE<=tick then 0 else x.bE}
def rY(a b:Bool)(y:cF):cF:={y with fired:=y.fired||a,st:=if b then 0 else if a/\y.st=1 then 0 else y.st,core:=if b then y.core.next else y.core}
def gX(c:ak)(m:MS)(i:Nat)(done:List Int):MS:=GK m fun p x=>if p∈aQ c i then rY (decide (2*(p:Int)∈done)) (decide (2*(p:Int)+1∈done)) (wj m.tick x)else x
theorem fire_none(y:cF):rY false false y=y:=by simp [rY]
section
variable{c:ak} {m:MS} {i p:Nat}
theorem tE(done:List Int):(gX c m i done).pr.length=m.pr.length:=mapS_len _ _
theorem rT(done:List Int){q:Nat}(hq:q<m.pr.length):aB (gX c m i done) q=if q∈aQ c i then rY (decide (2*(q:Int)∈done)) (decide (2*(q:Int)+1∈done)) (wj m.tick (aB m q))else aB m q:=prOf_mapS hq
theorem dueS_go(done:List Int)(hp:p∈aQ c i)(hm:p<m.pr.length)(hn:2*(p:Int)+1∉done):xT (gX c m i done) p=gX c m i (done++[2*(p:Int)+1]):=by
 refine Ol rfl rfl (by unfold xT;rw [zJ,tE,tE]) (fun q hq=> ?_);unfold xT at hq⊢;rw [zJ,tE]at hq;rw [pJ (by rw [tE];exact hm)];by_cases e:q=p
 ·subst e;rw [aah rfl,rT _ hq,rT _ hq,aah hp,aah hp];rw [aaC hn,abo (show 2*(q:Int)+1∈done++[2*(q:Int)+1] by simp)];have:decide (2*(q:Int)∈done++[2*(q:Int)+1])=decide (2*(q:Int)∈done):=by
   rw [abu,aaX,aaL];constructor
   ·rintro (h|h)
    ·exact h
    ·omega
   ·exact fun h=> .inl h
  rw [this];simp [rY]
 ·rw [aaf e,rT _ hq,rT _ hq];have h1:decide (2*(q:Int)∈done++[2*(p:Int)+1])=decide (2*(q:Int)∈done):=by
   rw [abu,aaX,aaL];constructor
   ·rintro (h|h)
    ·exact h
    ·omega
   ·exact fun h=> .inl h
  have h2:decide (2*(q:Int)+1∈done++[2*(p:Int)+1])=decide (2*(q:Int)+1∈done):=by
   rw [abu,aaX,aaL];constructor
   ·rintro (h|h)
    ·exact h
    ·omega
   ·exact fun h=> .inl h
  rw [h1,h2]
theorem dueS_fire(done:List Int)(hp:p∈aQ c i)(hm:p<m.pr.length)(hn:2*(p:Int)∉done):Cf ((gX c m i done).bM p fun x=>{x with fired:=true}) p=gX c m i (done++[2*(p:Int)]):=by
 have hl:p<(gX c m i done).pr.length:=by rw [tE];exact hm
 unfold Cf;rw [TJ hl];refine Ol rfl rfl (by rw [zJ,tE,tE]) (fun q hq=> ?_);rw [zJ,tE]at hq;rw [pJ hl];by_cases e:q=p
 ·subst e;rw [aah rfl,rT _ hq,rT _ hq,aah hp,aah hp];rw [aaC hn,abo (show 2*(q:Int)∈done++[2*(q:Int)] by simp)];have:decide (2*(q:Int)+1∈done++[2*(q:Int)])=decide (2*(q:Int)+1∈done):=by
   rw [abu,aaX,aaL];constructor
   ·rintro (h|h)
    ·exact h
    ·omega
   ·exact fun h=> .inl h
  rw [this]
  cases decide (2*(q:Int)+1∈done)<;>simp [rY]
 ·rw [aaf e,rT _ hq,rT _ hq];have h1:decide (2*(q:Int)∈done++[2*(p:Int)])=decide (2*(q:Int)∈done):=by
   rw [abu,aaX,aaL];constructor
   ·rintro (h|h)
    ·exact h
    ·omega
   ·exact fun h=> .inl h
  have h2:decide (2*(q:Int)+1∈done++[2*(p:Int)])=decide (2*(q:Int)+1∈done):=by
   rw [abu,aaX,aaL];constructor
   ·rintro (h|h)
    ·exact h
    ·omega
   ·exact fun h=> .inl h
  rw [h1,h2]
theorem JR:∀(l:List Nat) {m:MS} {p:Nat},l.Nodup->(∀q∈l,q<m.pr.length)->(lF m l).tick=m.tick/\(lF m l).pt=m.pt/\(lF m l).pr.length=m.pr.length/\(p<m.pr.length->aB (lF m l) p=if p∈l then Ap m.tick (aB m p)else aB m p)
 |[],m,p,_,_=>⟨rfl,rfl,rfl,fun _=>by simp [lF]⟩
 |q::r,m,p,hd,hl=>by
  obtain ⟨h1,h2⟩:=List.nodup_cons.1 hd;have hq:=hl q aaA;obtain ⟨i1,i2,i3,i4⟩:=JR r (m:=m.bM q (Ap m.tick)) (p:=p) h2 (fun x hx=>by rw [zJ];exact hl x (aaw _ hx));have e:lF m (q::r)=lF (m.bM q (Ap m.tick)) r:=rfl;rw [e];refine ⟨i1,i2,by rw [i3,zJ],fun hp=> ?_⟩;rw [i4 (by rw [zJ];exact hp),Jm,pJ hq];by_cases e1:p=q
  ·subst e1;rw [aaf h1,aah rfl,aah aaA]
  ·rw [aaf e1];by_cases e2:p∈r
   ·rw [aah e2,aah (aaw _ e2)]
   ·rw [aaf e2,aaf (fun h=>by rcases aa0.1 h with h|h;exact e1 h;exact e2 h)]
theorem Nt(tick:Int)(x:cF):rY (decide (0<x.timer/\x.timer<=tick)) (decide (0<x.bE/\x.bE<=tick)) (wj tick x)=Ap tick x:=by
 unfold rY wj Ap;by_cases h1:0<x.timer/\x.timer<=tick
 ·by_cases h2:0<x.bE/\x.bE<=tick
  ·simp [h1,h2]
  ·simp [h1,h2]
 ·by_cases h2:0<x.bE/\x.bE<=tick
  ·simp [h1,h2]
  ·simp [h1,h2]
theorem MZ(c:ak)(i:Nat):(aQ c i).Nodup:=List.nodup_range.filter _
theorem dueS_all(dV:m.pr.length=c.procs.length){L out L':List aZ.Th}(hL:kC c m i L)(hg:aZ.gA L)(hP:aZ.oI m.tick L out L'):gX c m i (out.map (·.2))=lF m (aQ c i):=by
 obtain ⟨p1,p2,p3⟩:=Ns hP hg;have aY:∀q∈aQ c i,q<m.pr.length:=fun q hq=>by rw [dV];exact (kG.1 hq).1
 obtain ⟨a1,a2,a3,_⟩:=JR (aQ c i) (p:=0) (MZ c i) aY;refine Ol a1.symm a2.symm (by rw [tE,a3]) (fun q hq=> ?_);rw [tE]at hq;rw [rT _ hq,(JR (aQ c i) (p:=q) (MZ c i) aY).2.2.2 hq];by_cases e:q∈aQ c i
 ·rw [aah e,aah e,<-Nt];congr 1
  ·rw [abu];constructor
   ·intro h;obtain ⟨t,ht,e2⟩:=abm.1 h;obtain ⟨sM,yS⟩:=(p1 t).1 ht;obtain ⟨r,hr,⟨rfl,h3⟩|⟨rfl,h3⟩⟩:=(hL t).1 sM
    ·have:r=q:=by simp only at e2;omega
     subst this;exact ⟨h3,yS⟩
    ·simp only at e2;omega
   ·rintro ⟨h1,h2⟩;exact abm.2 ⟨((aB m q).timer,2*(q:Int)),(p1 _).2 ⟨(hL _).2 ⟨q,e,.inl ⟨rfl,h1⟩⟩,h2⟩,rfl⟩
  ·rw [abu];constructor
   ·intro h;obtain ⟨t,ht,e2⟩:=abm.1 h;obtain ⟨sM,yS⟩:=(p1 t).1 ht;obtain ⟨r,hr,⟨rfl,h3⟩|⟨rfl,h3⟩⟩:=(hL t).1 sM
    ·simp only at e2;omega
    ·have:r=q:=by simp only at e2;omega
     subst this;exact ⟨h3,yS⟩
   ·rintro ⟨h1,h2⟩;exact abm.2 ⟨((aB m q).bE,2*(q:Int)+1),(p1 _).2 ⟨(hL _).2 ⟨q,e,.inr ⟨rfl,h1⟩⟩,h2⟩,rfl⟩
 ·rw [aaf e,aaf e]
theorem dueS_wok(dV:m.pr.length=c.procs.length){L out L':List aZ.Th}(hL:kC c m i L)(hg:aZ.gA L)(hP:aZ.oI m.tick L out L')(done:List Int):kC c (gX c m i done) i L':=fun t=>by
 obtain ⟨p1,p2,p3⟩:=Ns hP hg;rw [p2,hL t];constructor
 ·rintro ⟨⟨q,hq,h⟩,af⟩;refine ⟨q,hq, ?_⟩;rw [rT _ (by rw [dV];exact (kG.1 hq).1),aah hq];unfold rY wj;rcases h with⟨rfl,h⟩|⟨rfl,h⟩
  ·left;simp only at af⊢;rw [aaf (by omega)];exact ⟨rfl,h⟩
  ·right;simp only at af⊢;rw [aaf (by omega)];exact ⟨rfl,h⟩
 ·rintro ⟨q,hq,h⟩;rw [rT _ (by rw [dV];exact (kG.1 hq).1),aah hq]at h;unfold rY wj at h;simp only at h;rcases h with⟨rfl,h⟩|⟨rfl,h⟩
  ·split at h
   ·exact absurd h (Int.lt_irrefl 0)
   ·next hn=>
    rw [aaf hn];exact ⟨⟨q,hq,.inl ⟨rfl,h⟩⟩,by simp only;omega⟩
  ·split at h
   ·exact absurd h (Int.lt_irrefl 0)
   ·next hn=>
    rw [aaf hn];exact ⟨⟨q,hq,.inr ⟨rfl,h⟩⟩,by simp only;omega⟩
theorem dueS_agr(dV:m.pr.length=c.procs.length){y:Ix}(hy:y≠.dU i):iA c m (gX c m i []) y:=by
 have out:∀q,¬q<m.pr.length->aB (gX c m i []) q=aB m q:=fun q hq=>by
  unfold aB;rw [aac,aac,aas (by rw [tE];omega),aas (by omega)]
 have QX:∀q,q<m.pr.length->aB (gX c m i []) q=if q∈aQ c i then wj m.tick (aB m q)else aB m q:=fun q hq=>by
  rw [rT _ hq];simp only [List.not_mem_nil,decide_false,fire_none]
 cases y with
 |dU j=>
  intro q hq;have kz:q<m.pr.length:=by rw [dV];exact (kG.1 hq).1
  have:q∉aQ c i:=fun h=>hy (by rw [<-OK h,OK hq])
  rw [QX q kz,aaf this];exact ⟨rfl,rfl⟩
 |proc q=>
  simp only [iA];by_cases kz:q<m.pr.length
  ·rw [QX q kz];split<;>exact ⟨rfl,rfl,rfl⟩
  ·rw [out q kz];exact ⟨rfl,rfl,rfl⟩
 |jQ q=>
  simp only [iA];by_cases kz:q<m.pr.length
  ·rw [QX q kz];split<;>exact ⟨rfl,rfl⟩
  ·rw [out q kz];exact ⟨rfl,rfl⟩
 |head=>rfl
 |rF=>trivial
 |slt=>trivial
 |part j=>exact ⟨rfl,rfl,rfl,rfl⟩
 |kB j=>exact ⟨rfl,rfl⟩
theorem aG.gX(h:aG c m)(done:List Int):aG c (gX c m i done):=by
 have key:∀(P:cF->Prop),(∀x a b,P x->P (rY a b (wj m.tick x)))->(∀q,q<c.procs.length->P (aB m q))->∀q,q<c.procs.length->P (aB (Go.Proofs.YthopnfbjiifhhaaGreatDoor.gX c m i done) q):=fun P h1 h2 q hq=>by
  rw [rT _ (by rw [h.nq];exact hq)];split
  ·exact h1 _ _ _ (h2 q hq)
  ·exact h2 q hq
 refine ⟨h.np,by rw [tE];exact h.nq,h.t0,h.lk,h.own,h.rG,h.cur,h.log,h.uB,key (fun x=>aL.nj x.ss x.lc/\x.ss.length=c.labels.length+1) (fun x a b hx=>hx) h.ln,
  key (fun x=>∀s∈x.ss,(s.room:Int)=c.lane) (fun x a b hx=>hx) h.room,key (fun x=>∀s∈x.ss,∀y∈s.ws,jg c y.1) (fun x a b hx=>hx) h.qW,
  key (fun x=>(0<=x.timer/\x.timer<=m.tick+1099511627776)/\0<=x.bE/\x.bE<=m.tick+1099511627776) (fun x a b hx=> ?_) h.vG⟩
 have h0:=h.t0;unfold rY wj;simp only
 split<;>split<;>omega
end
open Go.RowKit
structure xP(w:World)(l:Lay)(U:Nat->Prop)(m:MS)(a:Option Addr)(n c:Nat)(ids:List Int):Prop where
 ma:Mk w l U m
 row:Row w 3 1 a n c (aZ.iC ids)
 ap:∀k,ae a=some k->¬U k
theorem xP.step{w w':World}{l:Lay}{U U':Nat->Prop}{m m':MS}{a:Option Addr}{n c:Nat}{ids:List Int}(h:xP w l U m a n c ids)(t:To w U w' U')(hk:Mk w' l U' m'):xP w' l U' m' a n c ids:=
 ⟨hk,h.row.mod t.1 h.ap,fun k hk hu=>by
  rcases t.2 k hu with h1|h1
  ·exact h.ap k hk h1
  ·have:=h.row.lt k hk
   omega⟩
section
variable{w w':World} {l:Lay} {m:MS} {U:Nat->Prop} {p q i j:Nat}
theorem wake_m(h:Mk w l U m)(hs:aG l.c m)(hc:dK l.c)(hi:i<l.c.labels.length):Calls Tryz.prog 127 #[.pointer (some ⟨l.bm,0,none⟩),.pointer (some ⟨l.bp i,0,none⟩)] w fun e w'=>e=.returned (.tuple #[])/\dm w l U (lF m (aQ l.c i)) w':=by
 have m9:=h.sU.2.2.2.2.1;have n7:=(h.vH hi).2.2.2.2.2.2.1;obtain ⟨F,L,hW,hL,yY,fG⟩:=h.drew.dU hi;have hl:=UZ hL hW.good hc;have Py:=aZ.wpop_any hW m.tick (by omega)
 have HN:Hid (∀(e:Ending) (w2:World),(∃out L' a c,e=.returned (.slice a out.length c)/\aZ.oI m.tick L out L'/\aZ.Cn w.drew (l.bw i) F m.tick L w2 out L' a c)->
  ∃ids a c,e=.returned (.slice a ids.length c)/\ids.length<=64/\Hid ((∃U2,To w U w2 U2/\xP w2 l U2 (gX l.c m i []) a ids.length c ids)/\gX l.c m i ids=lF m (aQ l.c i)/\ids.Nodup/\∀x∈ids,∃p:Nat,p∈aQ l.c i/\(x=2*(p:Int)\/x=2*(p:Int)+1))):=hd (fun e w2 he=>by
  obtain ⟨out,L',a,c,rfl,hP,hT⟩:=he;obtain ⟨p1,p2,p3⟩:=Ns hP hW.good;obtain ⟨F',q1,q2,q3⟩:=hT.wh;have ky:out.length<=64:=by
   have h1:=BP (2*l.c.procs.length) (out.map (·.2)) p3 (fun x hx=>by
    obtain ⟨t,ht,rfl⟩:=abm.1 hx;obtain ⟨p,hp,⟨rfl,_⟩|⟨rfl,_⟩⟩:=(hL t).1 ((p1 t).1 ht).1
    ·have:=(kG.1 hp).1;simp only
     omega
    ·have:=(kG.1 hp).1;simp only
     omega)
   have:=hc.k_;simp at h1;omega
  refine ⟨out.map (·.2),a,c,by rw [aa3],by rw [aa3];exact ky,hd ⟨?_,dueS_all hs.nq hL hW.good hP,p3,fun x hx=> ?_⟩⟩
  ·have h2:=Gg.of (A:=fun k=>ae a=some k) h.drew yY q2 (fun k hk=>⟨hT.new k hk,q3 k hk⟩) (fG w2 (gX l.c m i []) F' L' hT.mod q1 (dueS_wok hs.nq hL hW.good hP []) q2 (fun y hy=>dueS_agr hs.nq hy));obtain ⟨r1,U2,r2,r3,r4⟩:=h2;exact ⟨U2,(DU (To.refl w U)).trans ⟨r1,r3⟩,⟨r2,by rw [aa3];exact hT.row,r4⟩⟩
  ·obtain ⟨t,ht,rfl⟩:=abm.1 hx;obtain ⟨p,hp,⟨rfl,_⟩|⟨rfl,_⟩⟩:=(hL t).1 ((p1 t).1 ht).1
   ·exact ⟨p,hp,.inl rfl⟩
   ·exact ⟨p,hp,.inr rfl⟩)
 have HS:=hd hs;have HC:=hd hc;obtain ⟨M,hM⟩:=Haa (lF m (aQ l.c i));rw [hM.out]at HN⊢;obtain ⟨T,hT⟩:=Haa m.tick;rw [hT.out]at m9 Py HN;clear h hs hc hi hW hL yY fG hl hM hT;go_enter Tryz.func127,Tryz.ntmps127;go_upto_region 0 with fail;go_cut [15,16,17] (fun v15 v16 v17 wy=>∃ids a c,v15=.slice a ids.length c/\v16=.int .i64 (ids.length:Int)/\v17=.int .i64 0/\ids.length<=64/\Hid ((∃U2,To w U wy U2/\xP wy l U2 (gX l.c m i []) a ids.length c ids)/\gX l.c m i ids=M/\ids.Nodup/\∀x∈ids,∃p:Nat,p∈aQ l.c i/\(x=2*(p:Int)\/x=2*(p:Int)+1)))
 case first=>
  go_region_law (first|(go_simp;(with_reducible refine Py.mono ?_);rintro e w2 he;obtain ⟨ids,a,cc,rfl,hl,HX⟩:=HN.out e w2 he;clear he))
  all_goals (
   go_wp2_with fail;go_meet
   case rel=>exact ⟨ids,a,cc,rfl,rfl,rfl,hl,HX⟩)
 case rest=>
  obtain ⟨ids,a,cc,rfl,rfl,rfl,hl,HX⟩:=hcut;clear Py HN m9 n7;obtain ⟨N,hN⟩:=Haa ids.length;obtain ⟨QY,EO,Lm,Lp⟩:=HX.out;replace EO:=hd EO;replace Lm:=hd Lm;replace Lp:=hd Lp;rw [hN.out]at hl QY⊢;have aX:Hid (∃U2,To w U wc U2/\xP wc l U2 (gX l.c m i (ids.take 0)) a N cc ids):=hd QY;clear HX QY;go_wp2_with fail;go_loopg [17] N (fun k v17 wr=>∃j:Nat,v17=.int .i64 (j:Int)/\j+k=N/\Hid (∃U2,To w U wr U2/\xP wr l U2 (gX l.c m i (ids.take j)) a N cc ids))
  case atStart=>exact ⟨0,rfl,by omega,aX⟩
  case round=>
   obtain ⟨j,rfl,dh,HH⟩:=hrel;clear aX;by_cases af:j<N
   ·have fI:(j:Int)<(N:Int):=by omega
    have bP:j<ids.length:=by rw [hN.out];exact af
    obtain ⟨U2,t2,k2⟩:=HH.out;obtain ⟨g,rfl,d0⟩:=k2.row.cell j (by omega);obtain ⟨x,hx⟩:=Haa (ids.getD j 0);rw [show(aZ.iC ids)[j]?=some (.int .i64 x) by rw [<-hx.out];simp [aZ.iC,List.getD_eq_getElem?_getD,List.getElem?_eq_getElem bP]]at d0;obtain ⟨p,vk,Ii⟩:=Lp.out x (by rw [<-hx.out];exact Nr bP);have zb:=(kG.1 vk).1;have Cy:=HC.out.k_;have hpn':(p:Int)<(l.c.procs.length:Int):=by omega
    have mq:p<m.pr.length:=by rw [HS.out.nq];exact zb
    have Ed:x∉ids.take j:=fun Ea=>by
     have h2:=Lm.out;rw [<-List.take_append_drop j ids,aa2 bP,List.nodup_append]at h2;refine h2.2.2 x Ea x ?_ rfl;rw [<-hx.out,aac,aad bP];exact aaA
    have hdiv:x.tdiv 2=(p:Int):=by
     rcases Ii with e|e
     ·rw [Int.tdiv_eq_ediv_of_nonneg (by omega)];omega
     ·rw [Int.tdiv_eq_ediv_of_nonneg (by omega)];omega
    have j8:0<=x/\x<=1000:=by rcases Ii with e|e<;>omega
    have m11:=k2.ma.sU.2.2.2.2.2.2.1;obtain ⟨gp,ag,cg⟩:=k2.ma.Ga zb;rw [ag]at m11;have Ij:Hid (aG l.c (gX l.c m i (ids.take j))):=hd (HS.out.gX _);have xo:=Nq k2.ma HC.out zb;have yO:=zI ids j 0 bP;rw [hx.out]at yO;by_cases e:x=2*(p:Int)+1
    ·have fG:=Um k2.ma Ij.out zb;have aJ:xT (gX l.c m i (ids.take j)) p=gX l.c m i (ids.take (j+1)):=by rw [yO,e];exact dueS_go _ vk mq (by rw [<-e];exact Ed)
     rw [aJ]at fG
     have xq:Hid (∀w3,dm wr l U2 (gX l.c m i (ids.take (j+1))) w3->∃U3,To w U w3 U3/\xP w3 l U3 (gX l.c m i (ids.take (j+1))) (some ⟨g,0,none⟩) N cc ids):=hd (fun w3 ho=>by
      obtain ⟨U3,t3,k3⟩:=ho.get
      exact ⟨U3,t2.trans t3,k2.step t3 k3⟩)
     have e':(x==2*(p:Int)+1)=true:=by simpa using e
     clear t2 k2 HH Ij aJ yO Ed Ii mq vk EO hx bP e
     go_wp2_with (first
      |(go_at_call 121;refine xo.mono ?_;rintro e w1 ⟨rfl,rfl⟩;clear xo)
      |(go_at_call 150;refine fG.mono ?_;rintro e w3 ⟨rfl,ho⟩;clear fG))
     go_roundg (gk-1)
     case rel=>exact ⟨j+1,by go_num,by omega,hd (xq.out w3 ho)⟩
     case measure=>omega
    ·have e2:x=2*(p:Int):=by rcases Ii with h|h;exact h;exact absurd h e
     have x13:=(k2.ma.dS zb).j_;have xf:=(k2.ma.dS zb).fr;obtain ⟨U3,t3,k3⟩:=(k2.ma.setFired Ij.out zb true).get;have k4:=k2.step t3 k3;have fG:=rouse_any k3 (Ij.out.CE (f:=fun x=>{x with fired:=true}) zb (fun _=>rfl) (fun _=>rfl) (fun _=>rfl) (fun _=>rfl)) zb;have aJ:Cf ((gX l.c m i (ids.take j)).bM p fun x=>{x with fired:=true}) p=gX l.c m i (ids.take (j+1)):=by rw [yO,e2];exact dueS_fire _ vk mq (by rw [<-e2];exact Ed)
     rw [aJ]at fG
     have xq:Hid (∀w3,dm (wr.setCell ⟨l.bq p,13,none⟩ (.bool true)) l U3 (gX l.c m i (ids.take (j+1))) w3->∃U3,To w U w3 U3/\xP w3 l U3 (gX l.c m i (ids.take (j+1))) (some ⟨g,0,none⟩) N cc ids):=hd (fun w3 ho=>by
      obtain ⟨U4,t4,k5⟩:=ho.get
      exact ⟨U4,(t2.trans t3).trans t4,k4.step t4 k5⟩)
     have e':(x==2*(p:Int)+1)=false:=by simpa using e
     clear t2 k2 k4 k3 t3 HH Ij aJ yO Ed Ii mq vk EO hx bP e e2
     go_wp2_with (first
      |(go_at_call 121;refine xo.mono ?_;rintro e w1 ⟨rfl,rfl⟩;clear xo)
      |(go_at_call 151;refine fG.mono ?_;rintro e w3 ⟨rfl,ho⟩;clear fG))
     go_roundg (gk-1)
     case rel=>exact ⟨j+1,by go_num,by omega,hd (xq.out w3 ho)⟩
     case measure=>omega
   ·have jr:j=N:=by omega
    subst jr;obtain ⟨U2,t2,k2⟩:=HH.out;have k2:=k2.ma;rw [aap (by have:=hN.out;omega),EO.out]at k2;have HO:=hd (t2.mk k2);clear t2 k2 HH dh af hN EO Lm Lp;go_wp2_with fail;go_end0;exact ⟨rfl,HO.out⟩
end
end Go.Proofs.YthopnfbjiifhhaaGreatDoor
