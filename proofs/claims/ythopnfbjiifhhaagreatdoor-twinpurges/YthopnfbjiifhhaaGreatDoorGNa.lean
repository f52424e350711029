/- A machine as it is at first: what is told of it, in memory. A state that can be read. -/
import Derived.Test.YthopnfbjiifhhaaGreatDoorGMg
import Derived.StillTail
set_option maxHeartbeats 8000000
set_option maxRecDepth 100000
namespace Go.Proofs.YthopnfbjiifhhaaGreatDoor
open Go.RowKit Go.Proofs.Tryz
def mz(k:Nat):fg:=⟨0,[],0,0,List.replicate k (-1),List.replicate k []⟩
def pz(n room:Nat):cF:=⟨0,⟨0,fun _=>0⟩,0,false,0,List.replicate (n+1) ⟨room,[],[],0,0⟩,0⟩
theorem Jp(c:ak):firstM c=⟨0,List.replicate c.labels.length (mz c.aF.toNat),List.replicate c.procs.length (pz c.labels.length c.lane.toNat)⟩:=rfl
theorem M5:(prog.info? 23).map (fun i=>(i.zero,i.size,i.bytes))=some (some (.slice none 0 0),1,24):=by kernel_rfl
theorem info_alane:(prog.info? 147).map (fun i=>(i.zero,i.size,i.bytes))=some (some (.agg #[.slice none 0 0,.slice none 0 0,.int .i64 0,.int .i64 0]),4,64):=by kernel_rfl
def zq(k:Nat):Array Value:=madeCells (Value.slice none 0 0).cells (k*1)
def zl(n:Nat):Array Value:=madeCells (Value.agg #[.slice none 0 0,.slice none 0 0,.int .i64 0,.int .i64 0]).cells (n*4)
theorem zq_size(k:Nat):(zq k).size=k*1:=by simp [zq,madeCells]
theorem Vd(n:Nat):(zl n).size=n*4:=by simp [zl,madeCells]
theorem zq_eq(k:Nat):(zq k).toList=aV.sC (List.replicate k (none,0,[])):=by
 apply aaT;intro i;unfold zq madeCells;by_cases h:i<k
 ·simp [aV.sC,aV.sV,Value.cells,h,Nat.mod_one]
 ·simp [aV.sC,aV.sV,Value.cells,h,Nat.mod_one]
theorem BW(n i:Nat):aL.ay (List.replicate n aL.T0) i=aL.T0:=by
 unfold aL.ay;rw [aac,abf];split<;>rfl
theorem Ka(n:Nat)(i j:Nat)(hi:i<n)(hj:j<4):(zl n).toList[i*4+j]?=some ((#[.slice none 0 0,.slice none 0 0,.int .i64 0,.int .i64 0]:Array Value).getD j (.int .i64 0)):=by
 unfold zl madeCells;have h:i*4+j<n*4:=by omega
 have h2:(i*4+j)% 4=j:=by omega
 have e:(Value.agg #[.slice none 0 0,.slice none 0 0,.int .i64 0,.int .i64 0]).cells=#[.slice none 0 0,.slice none 0 0,.int .i64 0,.int .i64 0]:=by rfl
 have fV:j=0\/j=1\/j=2\/j=3:=by omega
 rcases fV with rfl|rfl|rfl|rfl<;>(try simp only [Nat.add_zero]at h h2)<;>simp [e,h,h2]
theorem zl_eq(n:Nat):(zl n).toList=aL.iV (List.replicate n aL.T0):=by
 apply aaT;intro k;have hl:(aL.iV (List.replicate n aL.T0)).length=n*4:=by rw [aL.NN,aaM]
 by_cases h:k<n*4
 ·have hi:k/4<n:=by omega
  obtain ⟨t0,t1,t2,t3⟩:=aL.JY (List.replicate n aL.T0) (k/4) (by rw [aaM];exact hi);rw [BW]at t0 t1 t2 t3;have hj:k% 4=0\/k% 4=1\/k% 4=2\/k% 4=3:=by omega
  have hk:k=k/4*4+k% 4:=by omega
  rcases hj with e|e|e|e
  ·rw [e,aa8]at hk;have z:=Ka n (k/4) 0 hi (by omega);rw [aa8]at z;rw [hk,t0,z];rfl
  ·rw [e]at hk;rw [hk,t1,Ka n (k/4) 1 hi (by omega)];rfl
  ·rw [e]at hk;rw [hk,t2,Ka n (k/4) 2 hi (by omega)];rfl
  ·rw [e]at hk;rw [hk,t3,Ka n (k/4) 3 hi (by omega)];rfl
 ·rw [aas (by have:=Vd n;simp;omega),aas (by rw [hl];omega)]
def Eg(k:Nat)(oa:Option Addr)(oc:Nat)(qa:Option Addr)(qc:Nat):iM:=⟨mz k,none,0,oa,oc,qa,qc,List.replicate k (none,0,[])⟩
def ye(n room:Nat)(la:Option Addr)(lc:Nat):iN:=⟨pz n room,la,lc,List.replicate (n+1) aL.T0⟩
theorem NZ(k i:Nat):aV.bN (List.replicate k (none,0,[])) i=(none,0,[]):=by
 unfold aV.bN;rw [aac,abf];split<;>rfl
variable{B i:Nat}{w:World}{m:MS}{F:Nat->Prop}{P:Int}
theorem ptT0_at{k:Nat}{oa:Option Addr}{oc:Nat}{qa:Option Addr}{qc:Nat}(h1:Row w 3 1 oa k oc (aV.iC (List.replicate k (-1))))(h2:Row w 23 1 qa k qc (aV.sC (List.replicate k (none,0,[]))))(n1:∀j,ae oa=some j->B<=j)(n2:∀j,ae qa=some j->B<=j)(ne:∀j,ae oa=some j->ae qa≠some j):
 tL B w (Eg k oa oc qa qc) (fun j=>ae oa=some j\/ae qa=some j)where
 log:=Row.nil
 own:=by
  show Row w 3 1 oa (List.replicate k (-1:Int)).length oc (aV.iC (List.replicate k (-1)))
  rw [aaM];exact h1
 ql:=by
  have e:∀i,aV.bN (Eg k oa oc qa qc).es i=(none,0,[]):=NZ k
  refine ⟨?_,fun i _ _=> ?_,n2,fun i _ _ j hj=> ?_,fun i _ _ _ _ _ _ j hj=> ?_⟩
  ·show Row w 23 1 qa (List.replicate k _).length qc (aV.sC (List.replicate k (none,0,[])));rw [aaM];exact h2
  ·rw [e];exact aV.Qw.J7 w
  ·rw [e]at hj
   cases hj
  ·rw [e]at hj
   cases hj
 qs:=by
  show aV.gE (List.replicate k (none,0,[]))=List.replicate k []
  unfold aV.gE;rw [List.map_replicate]
 ge:=fun j hj=>hj.elim (n1 j) (n2 j)
 lt:=fun j hj=>hj.elim (h1.lt j) (h2.lt j)
 fl:=fun j hj=>by cases hj
 fo:=fun j hj=> .inl hj
 fq:=fun j hj=>by
  rcases hj with hj|⟨i,_,_,hj⟩
  ·exact .inr hj
  ·have fV:ae (aV.bN (List.replicate k (none,0,[])) i).1=some j:=hj;rw [NZ]at fV
   cases fV
 Q5:=fun j hj=>by cases hj
 Q6:=fun j hj hq=>by
  rcases hq with hq|⟨i,_,_,hq⟩
  ·exact ne j hj hq
  ·have fV:ae (aV.bN (List.replicate k (none,0,[])) i).1=some j:=hq;rw [NZ]at fV
   cases fV
theorem prT0_at{n room:Nat}{la:Option Addr}{lc:Nat}(h1:Row w 147 4 la (n+1) lc (aL.iV (List.replicate (n+1) aL.T0)))(n1:∀j,ae la=some j->B<=j):tM B w (ye n room la lc) (fun j=>ae la=some j)where
 row:=by
  show Row w 147 4 la (List.replicate (n+1) aL.T0).length lc (aL.iV (List.replicate (n+1) aL.T0))
  rw [aaM];exact h1
 at':=by
  have e:∀i,aL.ay (ye n room la lc).ls i=aL.T0:=BW (n+1)
  refine ⟨fun i _=> ?_,fun i _=> ?_,fun i _ k hk=> ?_,fun i _ k hk=> ?_,fun i j _ _ _ k hk=> ?_⟩
  ·rw [e];exact Row.nil
  ·rw [e];exact Row.nil
  ·rw [e]at hk;cases hk
  ·rw [e]at hk;rcases hk with hk|hk<;>cases hk
  ·rw [e]at hk;rcases hk with hk|hk<;>cases hk
 tells:=by
  refine ⟨by show(List.replicate (n+1) aL.T0).length=(List.replicate (n+1) _).length;rw [aaM,aaM],fun i hi=> ?_⟩
  have e:aL.ay (ye n room la lc).ls i=aL.T0:=BW (n+1) i;have e2:aL.dL (ye n room la lc).x.ss i=⟨room,[],[],0,0⟩:=by
   have hm:=aL.DN hi;exact abn hm
  rw [e,e2];exact ⟨rfl,rfl,rfl,rfl⟩
 ge:=n1
 lt:=h1.lt
 fa:=fun _ h=>h
 ft:=fun i _ k hk=>by
  rw [show aL.ay (ye n room la lc).ls i=aL.T0 from BW (n+1) i]at hk
  rcases hk with hk|hk<;>cases hk
 ap:=fun k _ i _ hk=>by
  rw [show aL.ay (ye n room la lc).ls i=aL.T0 from BW (n+1) i]at hk
  rcases hk with hk|hk<;>cases hk
structure Rm(w:World)(room:Nat)(m:MS)(ps:List iM)(a:Option Addr)(qs:List iN)(b:Option Addr):Prop where
 np:ps.map (·.x)=m.pt
 nq:qs.map (·.x)=m.pr
 rp:Rd w a (uR ps)
 rq:Rd w b (uS qs)
 pp:∀i,i<ps.length->Di w (ps.getD i default)
 qq:∀i,i<qs.length->Be w room (qs.getD i default)
theorem VD{ps:List iM}(h:ps.map (·.x)=m.pt)(hi:i<ps.length):(ps.getD i default).x=aM m i:=by
 unfold aM;rw [<-h,aac,aac,aaK,aad hi];rfl
theorem VE{qs:List iN}(h:qs.map (·.x)=m.pr)(hi:i<qs.length):(qs.getD i default).x=aB m i:=by
 unfold aB;rw [<-h,aac,aac,aaK,aad hi];rfl
theorem ptR_of{t:iM}(h:tL B w t F)(hn:t.x.qs.length=t.x.os.length):Di w t:=
 ⟨h.log.rd,h.own.rd,⟨h.ql.row.rd,fun i hi=>(h.ql.qs i (aaq _) hi).rd⟩,h.qs,by
  rw [<-hn,<-h.qs]
  simp [aV.gE]⟩
theorem prR_of{t:iN}{room:Nat}(h:tM B w t F)(hr:∀s∈t.x.ss,s.room=room):Be w room t:=by
 refine ⟨⟨h.row.rd,fun u hu=> ?_⟩, ?_⟩
 ·obtain ⟨i,hi,rfl⟩:=aL.Tc hu;exact ⟨(h.at'.r1 i hi).rd,(h.at'.r2 i hi).rd⟩
 ·obtain ⟨e1,e2⟩:=h.tells;apply aaT;intro i;by_cases hi:i<t.x.ss.length
  ·obtain ⟨k1,k2,k3,k4⟩:=e2 i hi;have mM:i<t.ls.length:=by omega
   have hr':=hr _ (aL.DN hi);have e3:aL.ay t.ls i=t.ls[i]:=by unfold aL.ay;rw [aac,aad mM];rfl
   have e4:aL.dL t.x.ss i=t.x.ss[i]:=by
    have hm:=aad hi;unfold aL.dL;rw [aac,hm];rfl
   rw [aaK,aad mM,aad hi,<-e3,<-e4];show some (aL.eD.ls (aL.ay t.ls i) room)=_;unfold aL.eD.ls;rw [k1,k2,k3,k4,<-hr']
  ·rw [aas (by simp;omega),aas (by omega)]
theorem ST.rd{ps:List iM}{a:Option Addr}{c:Nat}{qs:List iN}{b:Option Addr}{d:Nat}{Fs:Nat->Nat->Prop}(h:ST B w m ps a c qs b d Fs){cf:ak}(hs:aG cf m):Rm w cf.lane.toNat m ps a qs b:=by
 have hl:=Ti ps qs;have mq:ps.length=cf.labels.length:=by rw [<-hs.np,<-h.np];simp
 have kU:qs.length=cf.procs.length:=by rw [<-hs.nq,<-h.nq];simp
 refine ⟨h.np,h.nq,h.rp.rd,h.rq.rd,fun i hi=> ?_,fun i hi=> ?_⟩
 ·have ht:=h.pj.at' i (by rw [hl];omega);have e:(ps.map jS.pt++qs.map jS.pr).getD i default=.pt (ps.getD i default):=by
   rw [aac,aaE (by simpa using hi),aaK,aac,aad hi];rfl
  rw [e]at ht;refine ptR_of ht ?_;rw [VD h.np hi];exact (hs.lk i (by omega)).1.n
 ·have ht:=h.pj.at' (ps.length+i) (by rw [hl];omega);have e:(ps.map jS.pt++qs.map jS.pr).getD (ps.length+i) default=.pr (qs.getD i default):=by
   rw [aac,aan (by simp),aaK,aac];simp only [List.length_map,Nat.add_sub_cancel_left];rw [aad hi];rfl
  rw [e]at ht;refine prR_of ht (fun s EH=> ?_);rw [VE h.nq hi]at EH;have:=hs.room i (by omega) s EH;omega
theorem Gi{lo hi v:Int}(h:bf lo hi v=0):lo<=v/\v<=hi:=by
 unfold bf at h;split at h
 ·assumption
 ·cases h
theorem tab_ok{l:List Int}(h:oD l P=0):1<=l.length/\l.length<=64/\∀i,i<l.length->0<=l.getD i 0/\l.getD i 0<P:=by
 unfold oD at h;split at h
 ·cases h
 ·split at h
  ·cases h
  ·split at h
   ·next h1 h2 h3=>
    refine ⟨by omega,by omega,fun i hi=> ?_⟩;have h4:=aa5.1 h3 _ (aaG hi);rw [aac,aad hi];simpa [tP]using h4
   ·cases h
theorem Wl{K:Int}{p:Pr}(h:ji P K p=0):(0<=p.part/\p.part<P)/\(gB p.code K).1=0:=by
 unfold ji at h;split at h
 ·cases h
 ·next h1=>
  have h2:bf 0 (P-1) p.part=0:=by
   rcases Decidable.em (bf 0 (P-1) p.part=0)with e|e
   ·exact e
   ·exact absurd e h1
  have h3:=Gi h2;exact ⟨⟨h3.1,by omega⟩,h⟩
theorem Us{c:ak}(h:(jt c).1=0)(hl:∀x∈c.labels,x<18446744073709551616)(hj:∀p,p<c.procs.length->eZ.yH (cd c p)):dK c:=by
 obtain ⟨h0,h1,h2,h3,h4,h5,h6,h7⟩:=(BM c).1 h;obtain ⟨l1,l2⟩:=BT h0;obtain ⟨t1,t2,t3⟩:=tab_ok h1;obtain ⟨f1,f2⟩:=Gi h2;obtain ⟨a1,a2⟩:=Gi h3;obtain ⟨k1,k2⟩:=Gi h4;obtain ⟨g1,g2⟩:=Gi h5;obtain ⟨c1,c2⟩:=zK h6
 have hp:∀p,p<c.procs.length->ji c.labels.length c.aF (c.procs.getD p default)=0:=fun p hp=>h7 _ (by
  rw [aac,aad hp]
  exact aaG hp)
 exact ⟨hl,l1,l2,t1,t2,t3,f1,f2,a1,a2,k1,k2,g1,g2,by omega,by omega,fun p h=>(Wl (hp p h)).1,fun p h=>(Wl (hp p h)).2,hj⟩
structure OT(c:ak)(m:MS):Prop where
 cfg:dK c
 lab0:(fN c.labels).1=0
 tg:aG c m
 tick:m.tick<=6917529027641081856
 lay:∀i,i<c.labels.length->aV.qN [] (aM m i).os (aM m i).qs=true
theorem layF_nil(n:Nat)(pre:aV.Qs):aV.qN pre (List.replicate n (-1)) (List.replicate n [])=true:=by
 induction n generalizing pre with
 |zero=>rfl
 |succ n ih=>
  rw [List.replicate_succ,List.replicate_succ,aV.qN];have:aV.uN pre (-1) []=true:=by simp [aV.uN,aV.kR]
  rw [aah this];exact ih _
theorem BH{c:ak}(h:i<c.labels.length):aM (firstM c) i=mz c.aF.toNat:=by
 rw [Jp];unfold aM;simp only
 rw [aac,abf,aah h];rfl
theorem Jg{c:ak}{p:Nat}(h:p<c.procs.length):aB (firstM c) p=pz c.labels.length c.lane.toNat:=by
 rw [Jp];unfold aB;simp only
 rw [aac,abf,aah h];rfl
theorem JS(n i:Nat):aV.aW (List.replicate n []) i=[]:=by
 unfold aV.aW;rw [aac,abf];split<;>rfl
theorem shp_first{c:ak}(h:dK c):aG c (firstM c):=by
 have Hl:=h.k0;have hk8:=h.k8;have lT:=h.l1;have hl64:=h.YX;have hn8:=h.n8;refine ⟨by simp [firstM],by simp [firstM],abe _,fun i hi=> ?_,fun i hi o ho=> ?_,fun i hi k x hx=> ?_,fun i hi=> ?_,fun i hi=> ?_,fun i hi=> ?_,fun p hp=> ?_,fun p hp s hs=> ?_,fun p hp s hs x hx=> ?_,fun p hp=> ?_⟩
 ·rw [BH hi];refine ⟨⟨by simp [mz],by simp [mz];omega,fun o ho=> ?_,fun j p hp=> ?_,fun j=> ?_,fun j k p hp=> ?_⟩,by simp [mz];omega⟩
  ·have:=abn ho;omega
  ·simp only [mz,JS]at hp;exact absurd hp aaF
  ·simp only [mz,JS];exact List.nodup_nil
  ·simp only [mz,JS]at hp;exact absurd hp aaF
 ·rw [BH hi]at ho;exact .inl (abn ho)
 ·rw [BH hi]at hx;simp only [mz,JS]at hx;exact absurd hx aaF
 ·rw [BH hi];exact .inl rfl
 ·rw [BH hi];show((0:Nat):Int)<=c.log;have:=h.g0;omega
 ·rw [BH hi];exact ⟨⟨abe _,by show(0:Int)<=65535;decide⟩,abe _,by show(0:Int)<=65535;decide⟩
 ·rw [Jg hp];refine ⟨⟨by simp [pz],by simp [pz];omega,by simp [pz],fun s hs=> ?_⟩,by simp [pz]⟩;rw [abn hs];exact ⟨by simp only;omega,by simp only;omega,⟨by simp only [List.length_nil];omega,.inl rfl,List.nodup_nil,⟨abe _,by show(0:Int)<=65535;decide⟩,abe _,by show(0:Int)<=65535;decide⟩,fun w hw=>absurd hw aaF⟩
 ·rw [Jg hp]at hs;rw [abn hs];simp only
  omega
 ·rw [Jg hp]at hs;rw [abn hs]at hx;exact absurd hx aaF
 ·rw [Jg hp];exact ⟨⟨abe _,by show(0:Int)<=0+1099511627776;omega⟩,abe _,by show(0:Int)<=0+1099511627776;omega⟩
theorem SF{c:ak}(h:(jt c).1=0)(hl:∀x∈c.labels,x<18446744073709551616)(hj:∀p,p<c.procs.length->eZ.yH (cd c p)):OT c (firstM c):=by
 have hc:=Us h hl hj;refine ⟨hc,((BM c).1 h).1,shp_first hc,by show(0:Int)<=_;decide,fun i hi=> ?_⟩;rw [BH hi];exact layF_nil _ _
section
variable{P:Program} {ops:Array Oper} {Q:Exit->Act->World->Prop} {md:Region.Mode} {S:World->Prop} {z:Nat}
def oC(P:Program)(md:Region.Mode)(ops:Array Oper)(Q:Exit->Act->World->Prop)(S:World->Prop)(z:Nat):Nat->Array Bool->Act->World->Prop
 |0,listed,a,w=>Region.ready md ops listed=[]/\Q .normal a w
 |fuel+1,listed,a,w=>(Region.ready md ops listed=[]->Q .normal a w)/\
  ∀i∈Region.ready md ops listed,wpOp P ops Q i (fun a' w'=>(i≠z->S w')/\oC P md ops Q S z fuel (listed.setIfInBounds i true) a' w') a w
theorem oC.any:∀(fuel:Nat) (listed:Array Bool) (a:Act) (w:World),oC P md ops Q S z fuel listed a w->wpAny P md ops Q fuel listed a w
 |0,_,_,_,h=>h
 |fuel+1,_,_,_,h=>⟨h.1,fun i hi=>wpOp_mono (fun a' w' h'=>oC.any fuel _ a' w' h'.2) (h.2 i hi)⟩
theorem z_waits{i j:Nat}{listed:Array Bool}(hw:Region.waitsFor md ops z i=true)(hi:i∈Region.ready md ops listed)(hj:j∈Region.ready md ops listed):j≠z:=by
 intro e;subst e;obtain ⟨oz,hz,e,he,hb,qg⟩:=Region.waitsFor_spec hw;obtain ⟨_,oj,EV,aY⟩:=aa_.1 hj;rw [hz]at EV
 cases EV
 have h1:=aY e he hb;have h0:=(aa_.1 hi).1;rw [qg]at h1;rcases aaU i listed.size with h'|h'
 ·simp [h']at h0 h1;rw [h0]at h1
  cases h1
 ·simp [Array.getElem?_eq_none h']at h1
theorem wpAnyZ_first{i:Nat}{oi:Oper}{v:Value}(hi:ops[i]?=some oi)(hw:Region.waitsFor md ops z i=true)(Kx:∀(j:Nat) (o:Oper) cs b,ops[j]?=some o->o.op≠.select cs b)
 (hQ:∀c a w,Q (.panic c) (a.put oi.dst v) w->Q (.panic c) a w):
 ∀(fuel:Nat) (listed:Array Bool) (a:Act) (w:World),
  (∀j oj,ops[j]?=some oj->j≠i->listed.getD j true=false->(∀e∈oj.after,Region.binds md e=true->e.on≠i)->oi.apart ops oj=true)->
  i∈Region.ready md ops listed->YieldsIf P ops S oi v a->S w->
  oC P md ops Q S z fuel (listed.setIfInBounds i true) (a.put oi.dst v) w->oC P md ops Q S z (fuel+1) listed a w:=by
 intro fuel
 induction fuel with
 |zero=>
  intro listed a w _ hr hy hS H;refine ⟨fun h=>(by rw [h]at hr;cases hr),fun j hj=> ?_⟩;by_cases Bg:j=i
  ·subst Bg;exact hy.wpOp hi hS ⟨fun _=>hS,H⟩
  ·have:=ready_mono hj Bg;rw [H.1]at this
   cases this
 |succ fuel ih=>
  intro listed a w Wm hr hy hS H;refine ⟨fun h=>(by rw [h]at hr;cases hr),fun j hj=> ?_⟩;by_cases Bg:j=i
  ·subst Bg;exact hy.wpOp hi hS ⟨fun _=>hS,H⟩
  ·have hjz:=z_waits hw hr hj;have h1:=H.2 j (ready_mono hj Bg);obtain ⟨Xq,oj,EV,aY⟩:=aa_.1 hj;have Ed:∀e∈oj.after,Region.binds md e=true->e.on≠i:=fun e he hb heq=>by
    have h1:=aY e he hb;have h0:=(aa_.1 hr).1;rw [heq]at h1;rcases aaU i listed.size with h'|h'
    ·simp [h']at h0 h1;rw [h0]at h1
     cases h1
    ·simp [Array.getElem?_eq_none h']at h1
   have h2:=wpOp_putIf EV (Wm j oj EV Bg Xq Ed) (fun cs b=>Kx i oi cs b hi) (fun cs b=>Kx j oj cs b EV) hQ hy h1;have hfree':∀k ok,ops[k]?=some ok->k≠i->(listed.setIfInBounds j true).getD k true=false->
    (∀e∈ok.after,Region.binds md e=true->e.on≠i)->oi.apart ops ok=true:=fun k ok hk Iw Ze gM=>by
    refine Wm k ok hk Iw ?_ gM;by_cases ug:j=k
    ·subst ug;exact Xq
    ·rw [getD_set_ne true ug]at Ze;exact Ze
   refine wpOp_mono (fun a' w' h3=>⟨h3.2.1,ih (listed.setIfInBounds j true) a' w' hfree' (ready_mono hr (Ne.symm Bg)) h3.1 (h3.2.1 hjz) ?_⟩) h2;rw [Array.setIfInBounds_comm _ _ Bg];exact h3.2.2
theorem tB{i:Nat}{oi:Oper}{v:Value}{fuel:Nat}{listed:Array Bool}{a:Act}{w:World}(hi:ops[i]?=some oi)(hw:Region.waitsFor md ops z i=true)
 (hs:Region.noSelect ops=true)(hf:Region.free md ops listed i=true)(hr:(Region.ready md ops listed).contains i=true)
 (hQ:∀c a w,Q (.panic c) (a.put oi.dst v) w->Q (.panic c) a w)(hy:YieldsIf P ops S oi v a)(hS:S w)
 (h:oC P md ops Q S z fuel (listed.setIfInBounds i true) (a.put oi.dst v) w):oC P md ops Q S z (fuel+1) listed a w:=
 wpAnyZ_first hi hw (Region.noSelect_spec hs) hQ fuel listed a w (Region.free_spec hi hf) (by simpa using hr) hy hS h
theorem rQ{i:Nat}{o:Oper}{fuel:Nat}{listed:Array Bool}{a:Act}{w:World}(hr:Region.ready md ops listed=[i])(ho:ops[i]?=some o)
 (h:∀K':Act->World->Prop,Shut (∀a w,(i≠z->S w)->oC P md ops Q S z fuel (listed.setIfInBounds i true) a w->K' a w)->if Region.wanted o (yielded ops a.tmps)=true then Oper.wp P o a w K' Q else K' (a.put o.dst undef) w):oC P md ops Q S z (fuel+1) listed a w:=by
 refine ⟨fun h0=>(by rw [hr]at h0;cases h0),fun j hj=> ?_⟩;rw [hr]at hj;rcases aaL.1 hj with rfl;exact wpOp_step ho (fun K' hK=>h K' (fun a w h1 h2=>hK a w ⟨h1,h2⟩))
theorem Tj{i i2:Nat}{o o2:Oper}{fuel:Nat}{listed:Array Bool}{a:Act}{w:World}(hr:Region.ready md ops listed=[i,i2])(ho:ops[i]?=some o)(jX:ops[i2]?=some o2)
 (h:∀K':Act->World->Prop,Shut (∀a w,(i≠z->S w)->oC P md ops Q S z fuel (listed.setIfInBounds i true) a w->K' a w)->if Region.wanted o (yielded ops a.tmps)=true then Oper.wp P o a w K' Q else K' (a.put o.dst undef) w)
 (h2:∀K':Act->World->Prop,Shut (∀a w,(i2≠z->S w)->oC P md ops Q S z fuel (listed.setIfInBounds i2 true) a w->K' a w)->if Region.wanted o2 (yielded ops a.tmps)=true then Oper.wp P o2 a w K' Q else K' (a.put o2.dst undef) w):oC P md ops Q S z (fuel+1) listed a w:=by
 refine ⟨fun h0=>(by rw [hr]at h0;cases h0),fun j hj=> ?_⟩;rw [hr]at hj;rcases aa0.1 hj with rfl|hj
 ·exact wpOp_step ho (fun K' hK=>h K' (fun a w h1 h2=>hK a w ⟨h1,h2⟩))
 ·rcases aaL.1 hj with rfl;exact wpOp_step jX (fun K' hK=>h2 K' (fun a w h1 h2=>hK a w ⟨h1,h2⟩))
theorem MC{listed:Array Bool}{a:Act}{w:World}(hr:Region.ready md ops listed=[])(h:Q .normal a w):∀fuel,oC P md ops Q S z fuel listed a w
 |0=>⟨hr,h⟩
 |_+1=>⟨fun _=>h,by rw [hr];simp⟩
theorem wp_region_z{id:Nat}{a:Act}{w:World}(hm:P.follows .mixedOrders=true)(z:Nat)(S:World->Prop)(hS:S w.drew)(h:S w.drew->oC P .any ops Q S z ops.size (Array.replicate ops.size false) a w.drew):(Code.region id ops true).wp P Q a w:=
 wp_region_any hm (oC.any _ _ _ _ (h hS))
end
structure LP(wr wn:World)(k:Nat)(oa:Option Addr)(oc:Nat)(qa:Option Addr)(qc:Nat):Prop where
 h1:Row wn 3 1 oa k oc (aV.iC (List.replicate k (-1)))
 h2:Row wn 23 1 qa k qc (aV.sC (List.replicate k (none,0,[])))
 n1:∀j,ae oa=some j->wr.heap.size<=j
 n2:∀j,ae qa=some j->wr.heap.size<=j
 ne:∀j,ae oa=some j->ae qa≠some j
 au:Below wr.heap.size wr wn
variable{w wr w1:World}{k oc:Nat}{oa:Option Addr}{ob:Obj}{T:TypeId}{v:Value}
theorem Oq{g:Nat}(h:w.heap[g]?=some (.cells (zq k) 23 (0,0)))(hk:k<=8):Row w 23 1 (some ⟨g,0,none⟩) k k (aV.sC (List.replicate k (none,0,[]))):=by
 rw [<-zq_eq];exact mZ h (zq_size k) (by unfold maxLen;omega)
theorem rdF_a(hk:k<=8)(h1:Row w1 3 1 oa k oc (aV.iC (List.replicate k (-1))))(n1:∀j,ae oa=some j->(wr.alloc ob).drew.heap.size<=j)(tj:Below (wr.alloc ob).drew.heap.size (wr.alloc ob).drew w1):
 LP wr (w1.alloc (.cells (zq k) 23)) k oa oc (some ⟨w1.heap.size,0,none⟩) k:=by
 have b1:=cC tj;have b0:Below wr.heap.size wr (wr.alloc ob):=aA wr _;have hs:(wr.alloc ob).heap.size=wr.heap.size+1:=by simp
 have gi:=b1.size;rw [hs]at gi b1;have n1:∀j,ae oa=some j->wr.heap.size+1<=j:=fun j hj=>by rw [<-hs];exact n1 j hj
 have b2:Below wr.heap.size wr w1:=b0.trans (b1.mono (by omega));refine ⟨h1.below (aA w1 _),Oq (aae w1 _) hk,fun j hj=>by have:=n1 j hj;omega,fun j hj=>by have e:w1.heap.size=j:=aau hj;omega,fun j hj e=> ?_,b2.alloc (by omega) _⟩;have:=h1.lt j hj;have e':w1.heap.size=j:=aau e;omega
theorem rdF_b(hk:k<=8)(h1:Row w1 3 1 oa k oc (aV.iC (List.replicate k (-1))))(n1:∀j,ae oa=some j->((wr.alloc ob).alloc (.cells (zq k) 23)).drew.heap.size<=j)(tj:Below ((wr.alloc ob).alloc (.cells (zq k) 23)).drew.heap.size ((wr.alloc ob).alloc (.cells (zq k) 23)).drew w1):
 LP wr w1 k oa oc (some ⟨wr.heap.size+1,0,none⟩) k:=by
 have b1:=cC tj;have b0:Below wr.heap.size wr (wr.alloc ob):=aA wr _;have hs:(wr.alloc ob).heap.size=wr.heap.size+1:=by simp
 have Rn:Below wr.heap.size wr ((wr.alloc ob).alloc (.cells (zq k) 23)):=b0.alloc (by omega) _;have hh:=aae (wr.alloc ob) (.cells (zq k) 23);rw [hs]at hh;have mT:((wr.alloc ob).alloc (.cells (zq k) 23)).heap.size=wr.heap.size+2:=by simp
 have gi:=b1.size;rw [mT]at gi b1;have n1:∀j,ae oa=some j->wr.heap.size+2<=j:=fun j hj=>by rw [<-mT];exact n1 j hj
 have hq:w1.heap[wr.heap.size+1]?=_:=(b1.block _ (by omega)).trans hh;exact ⟨h1,Oq hq hk,fun j hj=>by have:=n1 j hj;omega,fun j hj=>by have e:wr.heap.size+1=j:=aau hj;omega,fun j hj e=>by have:=n1 j hj;have e':wr.heap.size+1=j:=aau e;omega,Rn.trans (b1.mono (by omega))⟩
theorem rdF_c(hk:k<=8)(h1:Row w1 3 1 oa k oc (aV.iC (List.replicate k (-1))))(n1:∀j,ae oa=some j->((wr.alloc (.cells (zq k) 23)).alloc ob).drew.heap.size<=j)(tj:Below ((wr.alloc (.cells (zq k) 23)).alloc ob).drew.heap.size ((wr.alloc (.cells (zq k) 23)).alloc ob).drew w1):
 LP wr w1 k oa oc (some ⟨wr.heap.size,0,none⟩) k:=by
 have b1:=cC tj;have b0:Below wr.heap.size wr (wr.alloc (.cells (zq k) 23)):=aA wr _;have hs:(wr.alloc (.cells (zq k) 23)).heap.size=wr.heap.size+1:=by simp
 have Rn:Below wr.heap.size wr ((wr.alloc (.cells (zq k) 23)).alloc ob):=b0.alloc (by omega) _;have hh:(wr.alloc (.cells (zq k) 23)).heap[wr.heap.size]?=some (.cells (zq k) 23 (0,0)):=aae wr (.cells (zq k) 23);have mT:((wr.alloc (.cells (zq k) 23)).alloc ob).heap.size=wr.heap.size+2:=by simp
 have gi:=b1.size;rw [mT]at gi b1;have n1:∀j,ae oa=some j->wr.heap.size+2<=j:=fun j hj=>by rw [<-mT];exact n1 j hj
 have hq:w1.heap[wr.heap.size]?=_:=(b1.block _ (by omega)).trans (((aA (wr.alloc (.cells (zq k) 23)) ob).block _ (by omega)).trans hh);exact ⟨h1,Oq hq hk,fun j hj=>by have:=n1 j hj;omega,fun j hj=>by have e:wr.heap.size=j:=aau hj;omega,fun j hj e=>by have:=n1 j hj;have e':wr.heap.size=j:=aau e;omega,Rn.trans (b1.mono (by omega))⟩
theorem new_cellA:(w.alloc (.cells #[v] T)).drew.cell? ⟨w.heap.size,0,none⟩=some v:=by
 rw [aaa _ _ _ _ _ _ (heap_drew (aae w (.cells #[v] T)))];rfl
theorem new_cellB:((w.alloc (.cells #[v] T)).alloc ob).drew.cell? ⟨w.heap.size,0,none⟩=some v:=by
 have h2:((w.alloc (.cells #[v] T)).alloc ob).heap[w.heap.size]?=_:=((aA (w.alloc (.cells #[v] T)) ob).block _ (by simp)).trans (aae w (.cells #[v] T));rw [aaa _ _ _ _ _ _ (heap_drew h2)];rfl
theorem new_cellC:((w.alloc ob).alloc (.cells #[v] T)).drew.cell? ⟨w.heap.size+1,0,none⟩=some v:=by
 have h3:=aae (w.alloc ob) (.cells #[v] T);have e:(w.alloc ob).heap.size=w.heap.size+1:=by simp
 rw [e]at h3;rw [aaa _ _ _ _ _ _ (heap_drew h3)];rfl
theorem bel_c1(b:Below (w.alloc ob).drew.heap.size (w.alloc ob).drew w1):Below w.heap.size w w1:=(aA w ob).trans ((cC b).mono (by simp))
theorem VF{Dk:Obj}(b:Below ((w.alloc ob).alloc Dk).drew.heap.size ((w.alloc ob).alloc Dk).drew w1):Below w.heap.size w w1:=((aA w ob).alloc (by simp) Dk).trans ((cC b).mono (by simp;omega))
theorem Ot(k:Nat):madeCells #[Value.slice none 0 0] k=zq k:=by
 unfold zq;rw [Nat.mul_one];rfl
theorem first_any(c:ak)(g:Loc)(w:World)(hc:dK c):Calls prog 63 #[ct c g] w (Cp w (firstM c)):=by
 have HC:=hd hc;obtain ⟨Q,hQ⟩:=Haa (Cp w (firstM c));rw [hQ.out];have kq:=aA w (.cells (a_ c g) 26);have aT:=aae w (.cells (a_ c g) 26);obtain ⟨W,hW⟩:=Haa (w.alloc (.cells (a_ c g) 26));rw [hW.out]at kq aT;have Bf:W.heap.size=w.heap.size+1:=by rw [<-hW.out];simp
 have ai:=aA W (.cells z51 78)
 have lC:Hid (SI W ((W.alloc (.cells z51 78)).alloc (.cells z51 78)) (W.heap.size+1) 0 [] none 0 0 [] none 0 0 (fun _ _=>False)):=hd (by
  have e:(W.alloc (.cells z51 78)).heap.size=W.heap.size+1:=by simp
  refine ⟨rfl,rfl, ?_, ?_,Row.nil,Row.nil,uG.nil _ _ _,fun k hk=>(by cases hk),fun k hk=>(by cases hk),rfl,ai.alloc ai.size _⟩
  ·have:=aae (W.alloc (.cells z51 78)) (.cells z51 78);rw [e]at this;exact this
  ·rw [(aA (W.alloc (.cells z51 78)) _).block _ (by omega)]
   exact aae W _)
 obtain ⟨np,dI⟩:=Haa c.labels.length;obtain ⟨nq,dV⟩:=Haa c.procs.length;obtain ⟨nk,Aw⟩:∃n:Nat,Hid (c.aF=(n:Int)):=⟨c.aF.toNat,hd (by have:=hc.k0;omega)⟩;have Xk:np<=8:=by rw [<-dI.out];exact hc.n8
 have Wj:nq<=32:=by rw [<-dV.out];exact hc.k_
 have Ky:nk<=8:=by have:=hc.k8;have:=Aw.out;omega
 obtain ⟨B,hB⟩:=Haa w.heap.size
 have HD:Hid (∀V,Below W.heap.size W V->V.cell? ⟨B,0,none⟩=some (.slice g.la np g.lc)/\V.cell? ⟨B,4,none⟩=some (.int .i64 (nk:Int))/\V.cell? ⟨B,6,none⟩=some (.slice g.pa nq g.pc)):=hd (fun V hb=>by
  have hk:V.heap[B]?=some (.cells (a_ c g) 26 (0,0)):=by rw [<-hB.out,hb.block _ (by omega)];exact aT
  refine ⟨?_, ?_, ?_⟩
  ·rw [aaa _ _ _ _ _ _ hk,<-dI.out];rfl
  ·rw [aaa _ _ _ _ _ _ hk,<-Aw.out];rfl
  ·rw [aaa _ _ _ _ _ _ hk,<-dV.out];rfl)
 have Zf:Hid (B<W.heap.size):=hd (by rw [<-hB.out];omega);have Rp:Hid ((firstM c).pt=List.replicate np (mz nk)):=hd (by rw [Jp,dI.out,Aw.out];rfl);have Dg:Hid ((firstM c).pr=List.replicate nq (pz np c.lane.toNat)):=hd (by rw [Jp,dI.out,dV.out]);have kD:=hd kq;have Zg:=hd Bf;have LQ:=hd (fun(w':World) (gx:Nat) (h:w'.cell? ⟨gx,0,none⟩=some (.int .i64 (-1)))=>aV.repeat_row h Ky);have iJ:=aV.tF 107 23 _ 1 24 underlying107 M5 nk (by omega) (by unfold maxLen;omega);clear kq aT Bf ai hc;unfold z51 at lC;unfold a_ at hW;unfold ct a_;go_enter func63,ntmps63;go_upto_region 2 with fail;rw [hW.out,hB.out];obtain ⟨W0,aD⟩:=Haa ((W.alloc (.cells #[.int .i64 0,.slice none 0 0,.slice none 0 0] 78)).alloc (.cells #[.int .i64 0,.slice none 0 0,.slice none 0 0] 78));obtain ⟨R,hR⟩:=Haa (B+1);obtain ⟨G,hG⟩:=Haa (R+1);have Rq:Hid (W.heap.size=R):=hd (by rw [Zg.out,hB.out,hR.out]);rw [hR.out,hG.out];rw [aD.out]at lC⊢;rw [Rq.out,hG.out]at lC;clear hW aD;obtain ⟨v0,-,v6⟩:=HD.out W0 lC.out.au;have vD:Hid (∃ps Fs,SI W W0 G 0 ps none 0 0 [] none 0 0 Fs/\ps.map (·.x)=(firstM c).pt.take 0):=hd ⟨[],_,lC.out,by simp⟩;clear lC;go_wp2_with fail;go_loopg [7] np (fun k v7 wr=>∃(j:Nat),v7=.int .i64 (j:Int)/\j+k=np/\Hid (∃ps a c' Fs,SI W wr G 0 ps a j c' [] none 0 0 Fs/\ps.map (·.x)=(firstM c).pt.take j))
 case atStart=>exact ⟨0,rfl,by omega,hd (by obtain ⟨ps,Fs,h1,h2⟩:=vD.out;exact ⟨ps,none,0,Fs,h1,h2⟩)⟩
 case round=>
  obtain ⟨j,rfl,ug,HH⟩:=hrel;clear vD v0 v6;obtain ⟨ps,a,ca,Fs,hI,zh⟩:=HH.out;clear HH;by_cases af:j<np
  ·have fI:(j:Int)<(np:Int):=by omega
   have HS:Hid (∀V,Below wr.heap.size wr V->V.cell? ⟨B,4,none⟩=some (.int .i64 (nk:Int))/\V.cell? ⟨G,1,none⟩=some (.slice a j ca)):=hd (fun V hb=>⟨(HD.out V (hI.au.trans (hb.mono hI.au.size))).2.1,aaa V G 1 _ _ _ (hI.below hb).box⟩)
   have HN:Hid (∀(wn:World) (gz:Nat) (oa:Option Addr) (oc:Nat) (qa:Option Addr) (qc:Nat),wn.heap.size=gz->LP wr wn nk oa oc qa qc->∃(a':Option Addr) (c':Nat) (w2:World),
    (∀ty,(Builtin.append_ #[75,75] ty #[.slice a j ca,.slice (some ⟨gz,0,none⟩) 1 1]).run prog (wn.alloc (.cells #[.int .i64 0,.slice none 0 0,.int .i64 0,.int .i64 0,.slice oa nk oc,.slice qa nk qc] 109))=.ok (.slice a' (j+1) c') w2)/\
    (w2.cell? ⟨B,4,none⟩=some (.int .i64 (nk:Int))/\w2.cell? ⟨G,1,none⟩=some (.slice a j ca))/\w2.frozen? ⟨G,1,none⟩=false/\
    Hid (∃ps Fs,SI W (w2.setCell ⟨G,1,none⟩ (.slice a' (j+1) c')) G 0 ps a' (j+1) c' [] none 0 0 Fs/\ps.map (·.x)=(firstM c).pt.take (j+1))):=hd (fun wn gz oa oc qa qc hgz hr=>by
    subst hgz;have h1:=hI.below hr.au;have qx:=ptT0_at hr.h1 hr.h2 hr.n1 hr.n2 hr.ne;obtain ⟨a',c',w2,q1,q2,q3,q4⟩:=BQ (T:=75) underlying75 Jo rfl (by omega) h1.rp (by omega) (lh (Eg nk oa oc qa qc)) rfl (U_ _);have qz:=(aab.1 h1.box).1;have zi:ae a≠some G:=fun e=>by have:=(hI.ag G e).1;have:=hI.gg;omega
    have hbB:ae a≠some B:=fun e=>by have:=(hI.ag B e).1;have:=Zf.out;omega
    have sN:w2.heap[G]?=wn.heap[G]?:=q3.block _ qz zi;have Rk:B<wn.heap.size:=by have:=Zf.out;have:=h1.au.size;omega
    have hlen:(Eg nk oa oc qa qc).x.os.length=nk:=by simp [Eg,mz]
    have hlog:(Eg nk oa oc qa qc).x.log.length=0:=rfl;refine ⟨a',c',w2,fun ty=> ?_,⟨?_,(aa1 (w:=wn) sN).trans (aaa wn G 1 _ _ _ h1.box)⟩,(aby (w:=wn) sN).trans (by simp [World.frozen?,h1.box]),hd ?_⟩
    ·have:=q1 ty;unfold lh at this;rw [hlen,hlog]at this;exact this
    ·rw [q3.cell (p:=⟨B,4,none⟩) Rk hbB];exact (HS.out wn hr.au).1
    ·obtain ⟨bG,h2⟩:=hI.Wi hr.au qx q2 q3 q4;refine ⟨_,bG,h2, ?_⟩;rw [abd,zh,Rp.out,abH,abH,aaW (by omega),aaW (by omega),List.replicate_succ']
     rfl)
   clear hI;go_upto_region 4 with fail;obtain ⟨gw,nU⟩:=Haa wr.heap.size;refine wp_region_z (by kernel_rfl) 13 (fun w'=>w'.cell? ⟨B,4,none⟩=some (.int .i64 (nk:Int))/\w'.cell? ⟨G,1,none⟩=some (.slice a j ca)) (HS.out _ (fu wr)) (fun hHeld=> ?_);refine tB (i:=0) (oi:={dst:=some 9,op:=Op.fieldAddr 78 (Operand.tmp 3) 1,type:=0,pos:=_,after:=#[],guard:=none}) (v:= ?v1) rfl (by kernel_rfl) (by kernel_rfl) (by kernel_rfl) (by kernel_rfl) (fun _ _ _ h=>h) (Or.inl ⟨by rfl, ?Rs⟩) (by assumption) ?rest1
   case Rs=>(intro w5 kE;(try dsimp only at kE);first|(go_simp;done)|(go_simp;with_reducible rfl))
   simp only [Act.put,List.setIfInBounds_toArray,List.set_cons_zero,List.set_cons_succ];refine tB (i:=1) (oi:={dst:=some 10,op:=Op.load 75 (Operand.tmp 9),type:=75,pos:=_,after:=#[{on:=0,ground:=Ground.data}],guard:=none}) (v:= ?v2) rfl (by kernel_rfl) (by kernel_rfl) (by kernel_rfl) (by kernel_rfl) (fun _ _ _ h=>h) (Or.inl ⟨by rfl, ?zm⟩) (by assumption) ?rest2
   case zm=>(intro w5 kE;(try dsimp only at kE);first|(go_simp;done)|(go_simp;with_reducible rfl))
   simp only [Act.put,List.setIfInBounds_toArray,List.set_cons_zero,List.set_cons_succ];refine tB (i:=3) (oi:={dst:=some 12,op:=Op.fieldAddr 26 (Operand.tmp 1) 4,type:=0,pos:=_,after:=#[],guard:=none}) (v:= ?v3) rfl (by kernel_rfl) (by kernel_rfl) (by kernel_rfl) (by kernel_rfl) (fun _ _ _ h=>h) (Or.inl ⟨by rfl, ?hy3⟩) (by assumption) ?rest3
   case hy3=>(intro w5 kE;(try dsimp only at kE);first|(go_simp;done)|(go_simp;with_reducible rfl))
   simp only [Act.put,List.setIfInBounds_toArray,List.set_cons_zero,List.set_cons_succ];refine tB (i:=4) (oi:={dst:=some 13,op:=Op.load 3 (Operand.tmp 12),type:=3,pos:=_,after:=#[{on:=3,ground:=Ground.data}],guard:=none}) (v:= ?v4) rfl (by kernel_rfl) (by kernel_rfl) (by kernel_rfl) (by kernel_rfl) (fun _ _ _ h=>h) (Or.inl ⟨by rfl, ?hy4⟩) (by assumption) ?rest4
   case hy4=>(intro w5 kE;(try dsimp only at kE);first|(go_simp;done)|(go_simp;with_reducible rfl))
   simp only [Act.put,List.setIfInBounds_toArray,List.set_cons_zero,List.set_cons_succ];refine tB (i:=6) (oi:={dst:=some 15,op:=Op.fieldAddr 26 (Operand.tmp 1) 4,type:=0,pos:=_,after:=#[],guard:=none}) (v:= ?v5) rfl (by kernel_rfl) (by kernel_rfl) (by kernel_rfl) (by kernel_rfl) (fun _ _ _ h=>h) (Or.inl ⟨by rfl, ?hy5⟩) (by assumption) ?rest5
   case hy5=>(intro w5 kE;(try dsimp only at kE);first|(go_simp;done)|(go_simp;with_reducible rfl))
   simp only [Act.put,List.setIfInBounds_toArray,List.set_cons_zero,List.set_cons_succ];refine tB (i:=7) (oi:={dst:=some 16,op:=Op.load 3 (Operand.tmp 15),type:=3,pos:=_,after:=#[{on:=6,ground:=Ground.data}],guard:=none}) (v:= ?v6) rfl (by kernel_rfl) (by kernel_rfl) (by kernel_rfl) (by kernel_rfl) (fun _ _ _ h=>h) (Or.inl ⟨by rfl, ?hy6⟩) (by assumption) ?rest6
   case hy6=>(intro w5 kE;(try dsimp only at kE);first|(go_simp;done)|(go_simp;with_reducible rfl))
   simp only [Act.put,List.setIfInBounds_toArray,List.set_cons_zero,List.set_cons_succ];refine Tj (i:=2) (i2:=8) (o:={dst:=some 11,op:=Op.buildSlice 23 1 #[(0,Operand.const (Value.int IntKind.i64 (-1)))],type:=23,pos:=_,after:=#[],guard:=none}) (o2:={dst:=some 17,op:=Op.makeSlice 107 (Operand.tmp 16) (Operand.tmp 16),type:=107,pos:=_,after:=#[{on:=7,ground:=Ground.data},{on:=7,ground:=Ground.data}],guard:=none}) (by kernel_rfl) rfl rfl (fun K hK=> ?_) (fun K hK=> ?_)
   ·go_simp
    refine hK.out _ _ (fun _=>HS.out _ (aA wr _).drew) ?_;clear hK K;try simp only [Act.put,List.setIfInBounds_toArray,List.set_cons_zero,List.set_cons_succ]
    refine Tj (i:=5) (i2:=8) (o:={dst:=some 14,op:=Op.call {callee:=Callee.value (Operand.func 94),args:=#[Operand.tmp 11,Operand.tmp 13],argTypes:=#[23,3]},type:=23,pos:=_,after:=#[{on:=2,ground:=Ground.data},{on:=4,ground:=Ground.data}],guard:=none}) (o2:={dst:=some 17,op:=Op.makeSlice 107 (Operand.tmp 16) (Operand.tmp 16),type:=107,pos:=_,after:=#[{on:=7,ground:=Ground.data},{on:=7,ground:=Ground.data}],guard:=none}) (by kernel_rfl) rfl rfl (fun K hK=> ?_) (fun K hK=> ?_)
    ·go_simp
     (with_reducible refine (LQ.out _ _ new_cellA).mono ?_)
     rintro e w1 ⟨oa,oc,rfl,r1,r2,r3⟩
     go_simp
     have aH:=bel_c1 r3;refine hK.out _ _ (fun _=>HS.out _ aH) ?_;clear hK K;try simp only [Act.put,List.setIfInBounds_toArray,List.set_cons_zero,List.set_cons_succ]
     refine rQ (i:=8) (o:={dst:=some 17,op:=Op.makeSlice 107 (Operand.tmp 16) (Operand.tmp 16),type:=107,pos:=_,after:=#[{on:=7,ground:=Ground.data},{on:=7,ground:=Ground.data}],guard:=none}) (by kernel_rfl) rfl (fun K hK=> ?_)
     go_simp
     refine hK.out _ _ (fun _=>HS.out _ (aH.alloc aH.size _)) ?_;clear hK K;try simp only [Act.put,List.setIfInBounds_toArray,List.set_cons_zero,List.set_cons_succ]
     have aI:=aH.alloc aH.size (Obj.cells (madeCells #[Value.slice none 0 0] nk) 23);refine tB (i:=9) (oi:={dst:=some 18,op:=Op.build 109 #[(4,Operand.tmp 14),(5,Operand.tmp 17)],type:=109,pos:=_,after:=#[{on:=5,ground:=Ground.data},{on:=8,ground:=Ground.data}],guard:=none}) (v:= ?v7) rfl (by kernel_rfl) (by kernel_rfl) (by kernel_rfl) (by kernel_rfl) (fun _ _ _ h=>h) (Or.inl ⟨by rfl, ?hy7⟩) (HS.out _ aI) ?rest7
     case hy7=>(intro w5 kE;(try dsimp only at kE);first|(go_simp;done)|(go_simp;with_reducible rfl))
     simp only [Act.put,List.setIfInBounds_toArray,List.set_cons_zero,List.set_cons_succ];refine rQ (i:=10) (o:={dst:=some 19,op:=Op.buildSlice 75 1 #[(0,Operand.tmp 18)],type:=75,pos:=_,after:=#[{on:=9,ground:=Ground.data}],guard:=none}) (by kernel_rfl) rfl (fun K hK=> ?_)
     go_simp
     refine hK.out _ _ (fun _=>HS.out _ (aI.alloc (Below.size aI) _)) ?_;clear hK K;try simp only [Act.put,List.setIfInBounds_toArray,List.set_cons_zero,List.set_cons_succ]
     obtain ⟨a',c',w2,y1,⟨y2,y3⟩,y4,HY⟩:=HN.out (w1.alloc (Obj.cells (madeCells #[Value.slice none 0 0] nk) 23)) (w1.heap.size+1) oa oc _ _ (by simp) (by rw [Ot]at*;exact rdF_a Ky r1 r2 r3);refine rQ (i:=11) (o:={dst:=some 20,op:=Op.call {callee:=Callee.builtin Builtin.append,args:=#[Operand.tmp 10,Operand.tmp 19],argTypes:=#[75,75]},type:=75,pos:=_,after:=#[{on:=1,ground:=Ground.data},{on:=10,ground:=Ground.data},{on:=5,ground:=Ground.chain}],guard:=none}) (by kernel_rfl) rfl (fun K hK=> ?_);refine aL.rN (by rfl) _ _ _ (by rfl) _ _ _ _ (by rfl) (by rfl) y1 ?_;refine hK.out _ _ (fun _=>⟨y2,y3⟩) ?_;clear hK K y1;try simp only [Act.put,List.setIfInBounds_toArray,List.set_cons_zero,List.set_cons_succ]
     refine tB (i:=12) (oi:={dst:=some 21,op:=Op.fieldAddr 78 (Operand.tmp 3) 1,type:=0,pos:=_,after:=#[{on:=0,ground:=Ground.phase},{on:=1,ground:=Ground.phase},{on:=2,ground:=Ground.phase},{on:=3,ground:=Ground.phase},{on:=4,ground:=Ground.phase},{on:=5,ground:=Ground.phase},{on:=6,ground:=Ground.phase},{on:=7,ground:=Ground.phase},{on:=8,ground:=Ground.phase},{on:=9,ground:=Ground.phase},{on:=10,ground:=Ground.phase},{on:=11,ground:=Ground.phase}],guard:=none}) (v:= ?v8) rfl (by kernel_rfl) (by kernel_rfl) (by kernel_rfl) (by kernel_rfl) (fun _ _ _ h=>h) (Or.inl ⟨by rfl, ?hy8⟩) ⟨y2,y3⟩ ?rest8
     case hy8=>(intro w5 kE;(try dsimp only at kE);first|(go_simp;done)|(go_simp;with_reducible rfl))
     simp only [Act.put,List.setIfInBounds_toArray,List.set_cons_zero,List.set_cons_succ];refine rQ (i:=13) (o:={dst:=none,op:=Op.store 75 (Operand.tmp 21) (Operand.tmp 20),type:=0,pos:=_,after:=#[{on:=12,ground:=Ground.data},{on:=11,ground:=Ground.data},{on:=11,ground:=Ground.chain},{on:=0,ground:=Ground.phase},{on:=1,ground:=Ground.phase},{on:=2,ground:=Ground.phase},{on:=3,ground:=Ground.phase},{on:=4,ground:=Ground.phase},{on:=5,ground:=Ground.phase},{on:=6,ground:=Ground.phase},{on:=7,ground:=Ground.phase},{on:=8,ground:=Ground.phase},{on:=9,ground:=Ground.phase},{on:=10,ground:=Ground.phase},{on:=11,ground:=Ground.phase}],guard:=none}) (by kernel_rfl) rfl (fun K hK=> ?_)
     go_simp
     refine hK.out _ _ (fun h=>absurd rfl h) ?_;clear hK K;try simp only [Act.put,List.setIfInBounds_toArray,List.set_cons_zero,List.set_cons_succ]
     refine MC (by kernel_rfl) ?_ _;go_wp2_with fail;go_roundg (gk-1)
     case rel=>exact ⟨j+1,by go_num,by omega,hd (by obtain ⟨ps,Fs,g1,g2⟩:=HY.out;exact ⟨ps,a',c',Fs,g1,g2⟩)⟩
     case measure=>omega
    ·go_simp
     refine hK.out _ _ (fun _=>HS.out _ ((aA wr _).alloc (by simp) _).drew) ?_;clear hK K;try simp only [Act.put,List.setIfInBounds_toArray,List.set_cons_zero,List.set_cons_succ]
     refine rQ (i:=5) (o:={dst:=some 14,op:=Op.call {callee:=Callee.value (Operand.func 94),args:=#[Operand.tmp 11,Operand.tmp 13],argTypes:=#[23,3]},type:=23,pos:=_,after:=#[{on:=2,ground:=Ground.data},{on:=4,ground:=Ground.data}],guard:=none}) (by kernel_rfl) rfl (fun K hK=> ?_)
     go_simp
     (with_reducible refine (LQ.out _ _ new_cellB).mono ?_)
     rintro e w1 ⟨oa,oc,rfl,r1,r2,r3⟩
     go_simp
     have aH:=VF r3;refine hK.out _ _ (fun _=>HS.out _ aH) ?_;clear hK K;try simp only [Act.put,List.setIfInBounds_toArray,List.set_cons_zero,List.set_cons_succ]
     refine tB (i:=9) (oi:={dst:=some 18,op:=Op.build 109 #[(4,Operand.tmp 14),(5,Operand.tmp 17)],type:=109,pos:=_,after:=#[{on:=5,ground:=Ground.data},{on:=8,ground:=Ground.data}],guard:=none}) (v:= ?v9) rfl (by kernel_rfl) (by kernel_rfl) (by kernel_rfl) (by kernel_rfl) (fun _ _ _ h=>h) (Or.inl ⟨by rfl, ?hy9⟩) (HS.out _ aH) ?rest9
     case hy9=>(intro w5 kE;(try dsimp only at kE);first|(go_simp;done)|(go_simp;with_reducible rfl))
     simp only [Act.put,List.setIfInBounds_toArray,List.set_cons_zero,List.set_cons_succ];refine rQ (i:=10) (o:={dst:=some 19,op:=Op.buildSlice 75 1 #[(0,Operand.tmp 18)],type:=75,pos:=_,after:=#[{on:=9,ground:=Ground.data}],guard:=none}) (by kernel_rfl) rfl (fun K hK=> ?_)
     go_simp
     refine hK.out _ _ (fun _=>HS.out _ (aH.alloc (Below.size aH) _)) ?_;clear hK K;try simp only [Act.put,List.setIfInBounds_toArray,List.set_cons_zero,List.set_cons_succ]
     obtain ⟨a',c',w2,y1,⟨y2,y3⟩,y4,HY⟩:=HN.out w1 w1.heap.size oa oc _ _ (by simp) (by rw [Ot]at*;exact rdF_b Ky r1 r2 r3);refine rQ (i:=11) (o:={dst:=some 20,op:=Op.call {callee:=Callee.builtin Builtin.append,args:=#[Operand.tmp 10,Operand.tmp 19],argTypes:=#[75,75]},type:=75,pos:=_,after:=#[{on:=1,ground:=Ground.data},{on:=10,ground:=Ground.data},{on:=5,ground:=Ground.chain}],guard:=none}) (by kernel_rfl) rfl (fun K hK=> ?_);refine aL.rN (by rfl) _ _ _ (by rfl) _ _ _ _ (by rfl) (by rfl) y1 ?_;refine hK.out _ _ (fun _=>⟨y2,y3⟩) ?_;clear hK K y1;try simp only [Act.put,List.setIfInBounds_toArray,List.set_cons_zero,List.set_cons_succ]
     refine tB (i:=12) (oi:={dst:=some 21,op:=Op.fieldAddr 78 (Operand.tmp 3) 1,type:=0,pos:=_,after:=#[{on:=0,ground:=Ground.phase},{on:=1,ground:=Ground.phase},{on:=2,ground:=Ground.phase},{on:=3,ground:=Ground.phase},{on:=4,ground:=Ground.phase},{on:=5,ground:=Ground.phase},{on:=6,ground:=Ground.phase},{on:=7,ground:=Ground.phase},{on:=8,ground:=Ground.phase},{on:=9,ground:=Ground.phase},{on:=10,ground:=Ground.phase},{on:=11,ground:=Ground.phase}],guard:=none}) (v:= ?v10) rfl (by kernel_rfl) (by kernel_rfl) (by kernel_rfl) (by kernel_rfl) (fun _ _ _ h=>h) (Or.inl ⟨by rfl, ?hy10⟩) ⟨y2,y3⟩ ?rest10
     case hy10=>(intro w5 kE;(try dsimp only at kE);first|(go_simp;done)|(go_simp;with_reducible rfl))
     simp only [Act.put,List.setIfInBounds_toArray,List.set_cons_zero,List.set_cons_succ];refine rQ (i:=13) (o:={dst:=none,op:=Op.store 75 (Operand.tmp 21) (Operand.tmp 20),type:=0,pos:=_,after:=#[{on:=12,ground:=Ground.data},{on:=11,ground:=Ground.data},{on:=11,ground:=Ground.chain},{on:=0,ground:=Ground.phase},{on:=1,ground:=Ground.phase},{on:=2,ground:=Ground.phase},{on:=3,ground:=Ground.phase},{on:=4,ground:=Ground.phase},{on:=5,ground:=Ground.phase},{on:=6,ground:=Ground.phase},{on:=7,ground:=Ground.phase},{on:=8,ground:=Ground.phase},{on:=9,ground:=Ground.phase},{on:=10,ground:=Ground.phase},{on:=11,ground:=Ground.phase}],guard:=none}) (by kernel_rfl) rfl (fun K hK=> ?_)
     go_simp
     refine hK.out _ _ (fun h=>absurd rfl h) ?_;clear hK K;try simp only [Act.put,List.setIfInBounds_toArray,List.set_cons_zero,List.set_cons_succ]
     refine MC (by kernel_rfl) ?_ _;go_wp2_with fail;go_roundg (gk-1)
     case rel=>exact ⟨j+1,by go_num,by omega,hd (by obtain ⟨ps,Fs,g1,g2⟩:=HY.out;exact ⟨ps,a',c',Fs,g1,g2⟩)⟩
     case measure=>omega
   ·go_simp
    refine hK.out _ _ (fun _=>HS.out _ (aA wr _).drew) ?_;clear hK K;try simp only [Act.put,List.setIfInBounds_toArray,List.set_cons_zero,List.set_cons_succ]
    refine rQ (i:=2) (o:={dst:=some 11,op:=Op.buildSlice 23 1 #[(0,Operand.const (Value.int IntKind.i64 (-1)))],type:=23,pos:=_,after:=#[],guard:=none}) (by kernel_rfl) rfl (fun K hK=> ?_)
    go_simp
    refine hK.out _ _ (fun _=>HS.out _ ((aA wr _).alloc (by simp) _).drew) ?_;clear hK K;try simp only [Act.put,List.setIfInBounds_toArray,List.set_cons_zero,List.set_cons_succ]
    refine rQ (i:=5) (o:={dst:=some 14,op:=Op.call {callee:=Callee.value (Operand.func 94),args:=#[Operand.tmp 11,Operand.tmp 13],argTypes:=#[23,3]},type:=23,pos:=_,after:=#[{on:=2,ground:=Ground.data},{on:=4,ground:=Ground.data}],guard:=none}) (by kernel_rfl) rfl (fun K hK=> ?_)
    go_simp
    (with_reducible refine (LQ.out _ _ new_cellC).mono ?_)
    rintro e w1 ⟨oa,oc,rfl,r1,r2,r3⟩
    go_simp
    have aH:=VF r3;refine hK.out _ _ (fun _=>HS.out _ aH) ?_;clear hK K;try simp only [Act.put,List.setIfInBounds_toArray,List.set_cons_zero,List.set_cons_succ]
    refine tB (i:=9) (oi:={dst:=some 18,op:=Op.build 109 #[(4,Operand.tmp 14),(5,Operand.tmp 17)],type:=109,pos:=_,after:=#[{on:=5,ground:=Ground.data},{on:=8,ground:=Ground.data}],guard:=none}) (v:= ?v11) rfl (by kernel_rfl) (by kernel_rfl) (by kernel_rfl) (by kernel_rfl) (fun _ _ _ h=>h) (Or.inl ⟨by rfl, ?hy11⟩) (HS.out _ aH) ?rest11
    case hy11=>(intro w5 kE;(try dsimp only at kE);first|(go_simp;done)|(go_simp;with_reducible rfl))
    simp only [Act.put,List.setIfInBounds_toArray,List.set_cons_zero,List.set_cons_succ];refine rQ (i:=10) (o:={dst:=some 19,op:=Op.buildSlice 75 1 #[(0,Operand.tmp 18)],type:=75,pos:=_,after:=#[{on:=9,ground:=Ground.data}],guard:=none}) (by kernel_rfl) rfl (fun K hK=> ?_)
    go_simp
    refine hK.out _ _ (fun _=>HS.out _ (aH.alloc (Below.size aH) _)) ?_;clear hK K;try simp only [Act.put,List.setIfInBounds_toArray,List.set_cons_zero,List.set_cons_succ]
    obtain ⟨a',c',w2,y1,⟨y2,y3⟩,y4,HY⟩:=HN.out w1 w1.heap.size oa oc _ _ (by simp) (by rw [Ot]at*;exact rdF_c Ky r1 r2 r3);refine rQ (i:=11) (o:={dst:=some 20,op:=Op.call {callee:=Callee.builtin Builtin.append,args:=#[Operand.tmp 10,Operand.tmp 19],argTypes:=#[75,75]},type:=75,pos:=_,after:=#[{on:=1,ground:=Ground.data},{on:=10,ground:=Ground.data},{on:=5,ground:=Ground.chain}],guard:=none}) (by kernel_rfl) rfl (fun K hK=> ?_);refine aL.rN (by rfl) _ _ _ (by rfl) _ _ _ _ (by rfl) (by rfl) y1 ?_;refine hK.out _ _ (fun _=>⟨y2,y3⟩) ?_;clear hK K y1;try simp only [Act.put,List.setIfInBounds_toArray,List.set_cons_zero,List.set_cons_succ]
    refine tB (i:=12) (oi:={dst:=some 21,op:=Op.fieldAddr 78 (Operand.tmp 3) 1,type:=0,pos:=_,after:=#[{on:=0,ground:=Ground.phase},{on:=1,ground:=Ground.phase},{on:=2,ground:=Ground.phase},{on:=3,ground:=Ground.phase},{on:=4,ground:=Ground.phase},{on:=5,ground:=Ground.phase},{on:=6,ground:=Ground.phase},{on:=7,ground:=Ground.phase},{on:=8,ground:=Ground.phase},{on:=9,ground:=Ground.phase},{on:=10,ground:=Ground.phase},{on:=11,ground:=Ground.phase}],guard:=none}) (v:= ?v12) rfl (by kernel_rfl) (by kernel_rfl) (by kernel_rfl) (by kernel_rfl) (fun _ _ _ h=>h) (Or.inl ⟨by rfl, ?hy12⟩) ⟨y2,y3⟩ ?rest12
    case hy12=>(intro w5 kE;(try dsimp only at kE);first|(go_simp;done)|(go_simp;with_reducible rfl))
    simp only [Act.put,List.setIfInBounds_toArray,List.set_cons_zero,List.set_cons_succ];refine rQ (i:=13) (o:={dst:=none,op:=Op.store 75 (Operand.tmp 21) (Operand.tmp 20),type:=0,pos:=_,after:=#[{on:=12,ground:=Ground.data},{on:=11,ground:=Ground.data},{on:=11,ground:=Ground.chain},{on:=0,ground:=Ground.phase},{on:=1,ground:=Ground.phase},{on:=2,ground:=Ground.phase},{on:=3,ground:=Ground.phase},{on:=4,ground:=Ground.phase},{on:=5,ground:=Ground.phase},{on:=6,ground:=Ground.phase},{on:=7,ground:=Ground.phase},{on:=8,ground:=Ground.phase},{on:=9,ground:=Ground.phase},{on:=10,ground:=Ground.phase},{on:=11,ground:=Ground.phase}],guard:=none}) (by kernel_rfl) rfl (fun K hK=> ?_)
    go_simp
    refine hK.out _ _ (fun h=>absurd rfl h) ?_;clear hK K;try simp only [Act.put,List.setIfInBounds_toArray,List.set_cons_zero,List.set_cons_succ]
    refine MC (by kernel_rfl) ?_ _;go_wp2_with fail;go_roundg (gk-1)
    case rel=>exact ⟨j+1,by go_num,by omega,hd (by obtain ⟨ps,Fs,g1,g2⟩:=HY.out;exact ⟨ps,a',c',Fs,g1,g2⟩)⟩
    case measure=>omega
  ·obtain rfl:j=np:=by omega
   obtain ⟨-,-,v6⟩:=HD.out wr hI.au;have Ku:ps.length=j:=hI.np;have Kv:Hid (ps.map (·.x)=(firstM c).pt):=hd (by rw [zh,Rp.out,aap (by rw [aaM];exact aag _)]);have ry:Hid (∃qs Fs,SI W wr G 0 ps a j ca qs none 0 0 Fs/\qs.map (·.x)=(firstM c).pr.take 0):=hd ⟨[],Fs,hI,by simp⟩;have hmk2:∀V,(Instr.makeSlice 113 (.int .i64 ((j:Int)+1)) (.int .i64 ((j:Int)+1))).run prog V=.ok (.slice (some ⟨V.heap.size,0,none⟩) (j+1) (j+1)) (V.alloc (.cells (zl (j+1)) 147)):=aV.tF 113 147 _ 4 64 underlying113 info_alane (j+1) (by omega) (by unfold maxLen;omega);clear hI zh ug af iJ LQ Rp;go_wp2_with fail;go_loopg [26] nq (fun k v26 wr=>∃(i:Nat),v26=.int .i64 (i:Int)/\i+k=nq/\Hid (∃qs b d Fs,SI W wr G 0 ps a j ca qs b i d Fs/\qs.map (·.x)=(firstM c).pr.take i))
   case atStart=>exact ⟨0,rfl,by omega,hd (by obtain ⟨qs,Fs,h1,h2⟩:=ry.out;exact ⟨qs,none,0,Fs,h1,h2⟩)⟩
   case round=>
    obtain ⟨i,rfl,dh,HH⟩:=hrel;clear ry v6;obtain ⟨qs,b,d,Fs,hI,vC⟩:=HH.out;clear HH;by_cases af:i<nq
    ·have fI:(i:Int)<(nq:Int):=by omega
     obtain ⟨v0,-,-⟩:=HD.out wr hI.au;have HX:Hid (∀V,Below wr.heap.size wr V->V.cell? ⟨G,2,none⟩=some (.slice b i d)):=hd (fun V hb=>aaa V G 2 _ _ _ (hI.below hb).box);have x1:=HX.out wr (aak _ _);have xA:∀ob,(wr.alloc ob).cell? ⟨G,2,none⟩=some (.slice b i d):=fun ob=>HX.out _ (aA wr ob)
     have xB:∀ob Dk,((wr.alloc ob).alloc Dk).cell? ⟨G,2,none⟩=some (.slice b i d):=fun ob Dk=>HX.out _ ((aA wr ob).alloc (by simp) Dk)
     have HN:Hid (∃(a':Option Addr) (c':Nat) (w2:World),
      (∀ty,(Builtin.append_ #[76,76] ty #[.slice b i d,.slice (some ⟨wr.heap.size+1,0,none⟩) 1 1]).run prog ((wr.alloc (.cells (zl (j+1)) 147)).alloc (.cells #[.int .i64 0,.int .i64 0,.int .i64 0,.int .i64 0,.int .i64 0,.int .i64 0,.int .i64 0,.int .i64 0,.int .i64 0,.int .i64 0,.int .i64 0,.int .i64 0,.bool false,.int .i64 0,.slice (some ⟨wr.heap.size,0,none⟩) (j+1) (j+1)] 115)).drew=.ok (.slice a' (i+1) c') w2)/\
      (∃u,w2.cell? ⟨G,2,none⟩=some u)/\w2.frozen? ⟨G,2,none⟩=false/\
      Hid (∃qs Fs,SI W (w2.setCell ⟨G,2,none⟩ (.slice a' (i+1) c')) G 0 ps a j ca qs a' (i+1) c' Fs/\qs.map (·.x)=(firstM c).pr.take (i+1))):=hd (by
      have ai:Below wr.heap.size wr (wr.alloc (.cells (zl (j+1)) 147)).drew:=(aA wr _).drew;have cD:(wr.alloc (.cells (zl (j+1)) 147)).drew.heap.size=wr.heap.size+1:=by simp
      have ko:(wr.alloc (.cells (zl (j+1)) 147)).drew.heap[wr.heap.size]?=_:=heap_drew (aae wr (.cells (zl (j+1)) 147));have bI:Row (wr.alloc (.cells (zl (j+1)) 147)).drew 147 4 (some ⟨wr.heap.size,0,none⟩) (j+1) (j+1) (aL.iV (List.replicate (j+1) aL.T0)):=by
       rw [<-zl_eq];exact mZ ko (Vd (j+1)) (by unfold maxLen;omega)
      have qx:=prT0_at (B:=wr.heap.size) (room:=c.lane.toNat) bI (fun k hk=>by have e:wr.heap.size=k:=aau hk;omega);obtain ⟨wn,nX⟩:=Haa ((wr.alloc (.cells (zl (j+1)) 147)).drew);rw [nX.out]at ai cD qx;have h1:=hI.below ai;obtain ⟨a',c',w2,q1,q2,q3,q4⟩:=BQ (T:=76) underlying76 Jc rfl (by omega) h1.rq (by omega) (lz (ye j c.lane.toNat (some ⟨wr.heap.size,0,none⟩) (j+1))) rfl (Vc _);have qz:=(aab.1 h1.box).1;have zi:ae b≠some G:=fun e=>by have:=(hI.bg G e).1;have:=hI.gg;omega
      have sN:w2.heap[G]?=wn.heap[G]?:=q3.block _ qz zi;have hlen:(ye j c.lane.toNat (some ⟨wr.heap.size,0,none⟩) (j+1)).x.ss.length=j+1:=by simp [ye,pz]
      refine ⟨a',c',w2,fun ty=> ?_,⟨_,(aa1 (w:=wn) sN).trans (aaa wn G 2 _ _ _ h1.box)⟩,(aby (w:=wn) sN).trans (by simp [World.frozen?,h1.box]),hd ?_⟩
      ·have:=q1 ty;unfold lz at this;rw [hlen,cD,<-nX.out]at this;exact this
      ·obtain ⟨bG,h2⟩:=hI.D2 ai qx q2 q3 q4;refine ⟨_,bG,h2, ?_⟩;rw [abd,vC,Dg.out,abH,abH,aaW (by omega),aaW (by omega),List.replicate_succ']
       rfl)
     clear hI HX;obtain ⟨a',c',w2,y2,⟨yu,y3⟩,y4,HY⟩:=HN.out;replace y2:=hd y2;clear HN;have w1:IntKind.i64.wrap ((j:Int)+1)=(j:Int)+1:=by rw [abG];omega
     go_upto_region 8 with fail;go_region_law (refine aL.rN (by rfl) _ _ _ (by rfl) _ _ _ _ (by rfl) (by rfl) y2.out ?_;clear y2)
     all_goals (
      go_wp2_with fail;go_roundg (gk-1)
      case rel=>exact ⟨i+1,by go_num,by omega,hd (by obtain ⟨qs,Fs,g1,g2⟩:=HY.out;exact ⟨qs,a',c',Fs,g1,g2⟩)⟩
      case measure=>omega)
    ·obtain rfl:i=nq:=by omega
     have GN:qs.map (·.x)=(firstM c).pr:=by rw [vC,Dg.out,aap (by rw [aaM];exact aag _)]
     have gy:=hI.box;have dN:=hI.res;have ES:=hI.gg;have lT:(firstM c).pt.length=j:=by rw [<-Kv.out,aa3];exact Ku
     have iK:(firstM c).pr.length=i:=by rw [Dg.out,aaM]
     rw [Rq.out]at dN
     have HO:Hid (Q (.returned (.agg #[.int .i64 0,.slice a j ca,.slice b i d])) (((wr.setCell ⟨R,0,none⟩ (.int .i64 0)).setCell ⟨R,1,none⟩ (.slice a j ca)).setCell ⟨R,2,none⟩ (.slice b i d))):=hd (by
      rw [<-hQ.out];have mr:Mod (fun k=>k=R) wr (((wr.setCell ⟨R,0,none⟩ (.int .i64 0)).setCell ⟨R,1,none⟩ (.slice a j ca)).setCell ⟨R,2,none⟩ (.slice b i d)):=dz (dz (dP _ _ _ _) _ _) _ _;have hWR:=Rq.out;have hWS:=Zg.out;have aj:=kD.out;refine ⟨ps,a,ca,qs,b,d,Fs,by rw [xE,lT,iK];rfl,⟨Kv.out,GN, ?_, ?_, ?_,fun k hk=>⟨by have:=(hI.ag k hk).1;omega,(hI.ag k hk).2⟩,fun k hk=>⟨by have:=(hI.bg k hk).1;omega,(hI.bg k hk).2⟩⟩, ?_⟩
      ·rw [lT];exact hI.rp.mod mr (fun k hk e=>by have:=(hI.ag k hk).1;omega)
      ·rw [iK];exact hI.rq.mod mr (fun k hk e=>by have:=(hI.bg k hk).1;omega)
      ·have px:=hI.pj.mod mr (fun x hx k hk e=>by have:=(hI.pj.at' x hx).ge k hk;omega);exact ⟨fun x hx=>(px.at' x hx).mono (by omega),px.ap⟩
      ·exact ((Mod.aS (fun _=>False) (aj.trans (hI.au.mono aj.size))).trans mr (fun k hk=> .inr (by omega))).below (aag _) (fun k _ hk=>hk.elim))
     have z0':=aaa wr G 0 _ _ _ gy;have z1':=aaa wr G 1 _ _ _ gy;have z2':=aaa wr G 2 _ _ _ gy;unfold z51 at dN;have z0:=aaa wr R 0 _ _ _ dN;have z1:=aaa wr R 1 _ _ _ dN;have z2:=aaa wr R 2 _ _ _ dN;have zf:∀j,wr.frozen? ⟨R,j,none⟩=false:=fun j=>by simp [World.frozen?,dN]
     have zj:Hid ((((wr.setCell ⟨R,0,none⟩ (.int .i64 0)).setCell ⟨R,1,none⟩ (.slice a j ca)).setCell ⟨R,2,none⟩ (.slice b i d)).heap[R]?=some (.cells #[.int .i64 0,.slice a j ca,.slice b i d] 78 (0,0))):=hd (by
      rw [aU (aU (aU dN _) _) _]
      rfl)
     clear hI gy dN ES GN vC lT iK Ku af dh;go_wp2_with fail;refine aar (v:=.agg #[.int .i64 0,.slice a j ca,.slice b i d]) ?_ rfl HO.out;have y0:=aaa _ R 0 _ _ _ zj.out;have y1:=aaa _ R 1 _ _ _ zj.out;have y2:=aaa _ R 2 _ _ _ zj.out;clear HO zj z0' z1' z2' z0 z1 z2 zf;generalize World.setCell _ _ _=Wf at*
     simp at y0 y1 y2;simp [results,results63,go_sem,y0,y1,y2]
end Go.Proofs.YthopnfbjiifhhaaGreatDoor
