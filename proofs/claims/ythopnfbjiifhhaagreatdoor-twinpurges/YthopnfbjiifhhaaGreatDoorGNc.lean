/- laid: the walk. -/
import Derived.Test.YthopnfbjiifhhaaGreatDoorGNa
set_option maxHeartbeats 8000000
set_option maxRecDepth 100000
namespace Go.Proofs.YthopnfbjiifhhaaGreatDoor
open Go.RowKit Go.Proofs.Tryz
structure LU(V:World)(c:ak)(g:Loc)(K:Nat->Prop)(m:MS)(np a b q:Nat)(wr:World)(l:Lay)(Fs:Ix->Nat->Prop):Prop where
 i:iY V l m np a b q wr Fs
 c:l.c=c
 g:l.g=g
 k:l.K=K
 b:l.bm=V.heap.size
def uH(V:World)(c:ak)(g:Loc)(K:Nat->Prop)(m:MS)(np a b q:Nat)(wr:World)(ap:Option Addr)(cp:Nat)(aq:Option Addr)(cq:Nat):Prop:=∃l Fs,LU V c g K m np a b q wr l Fs/\l.ap=ap/\l.cp=cp/\l.aq=aq/\l.cq=cq
def OU(w:World)(c:ak)(g:Loc)(K:Nat->Prop)(m:MS)(E:Ending)(w':World):Prop:=∃l U,E=.returned (.pointer (some ⟨l.bm,0,none⟩))/\Mk w' l U m/\l.c=c/\l.g=g/\l.K=K/\(∀k,U k->w.heap.size<=k)/\Below w.heap.size w w'
def tq(g:Loc)(k:Nat):Prop:=sS g k\/k=1\/k=0
variable{V V1 wr w1 w:World}{g:Loc}{m:MS}{K:Nat->Prop}{bt j np q bp bq i ca cb:Nat}{a b:Option Addr}{l:Lay}
theorem ldX_start{w2:World}{c:ak}{bs:Nat}{F1 F2:Nat->Prop}
 (hb:V1.heap[V.heap.size]?=some (.cells #[.slice g.la c.labels.length g.lc,.slice g.ta c.table.length g.tc,.int .i64 c.fuel,.int .i64 c.lane,.int .i64 c.aF,.int .i64 c.log,.slice g.pa c.procs.length g.pc,.pointer (some ⟨bt,0,none⟩),.pointer none,.int .i64 m.tick,.slice none 0 0,.slice none 0 0] 163 (0,0)))
 (Ef:Below V.heap.size V V1)(ht:Aq V1 bt F1 c.labels)(jj:∀k,F1 k->V.heap.size<k/\k<V1.heap.size)(Gs:Below V1.heap.size V1 w2)(hsl:Ks w2 bs F2 c.table)(oZ:∀k,F2 k->V1.heap.size<=k/\k<w2.heap.size):
 uH V c g K m 0 0 0 0 (w2.setCell ⟨V.heap.size,8,none⟩ (.pointer (some ⟨bs,0,none⟩))) none 0 none 0:=by
 have hm:Mod (fun k=>k=V.heap.size) w2 (w2.setCell ⟨V.heap.size,8,none⟩ (.pointer (some ⟨bs,0,none⟩))):=dP _ _ _ _;have hs:=hm.size;have mT:=Gs.size;have hl:=(aab.1 hb).1
 refine ⟨⟨c,g,V.heap.size,bt,bs,none,0,none,0,fun _=>0,fun _=>0,fun _=>0,fun _=>none,fun _=>0,fun _=>0,fun _=>0,K⟩,fun x k=>match x with
  | .head=>k=V.heap.size
  | .rF=>F1 k
  | .slt=>F2 k
  |_=>False,⟨⟨⟨?_,Row.nil,Row.nil,fun k hk=>(by cases hk),fun k hk=>(by cases hk),rfl,fun k hk=>(by cases hk),fun k hk=>(by cases hk)⟩, ?_, ?_, ?_, ?_⟩,rfl,rfl,rfl,rfl⟩,rfl,rfl,rfl,rfl⟩
 ·have e1:w2.heap[V.heap.size]?=_:=(Gs.block _ hl).trans hb;show(w2.setCell ⟨V.heap.size,8,none⟩ (.pointer (some ⟨bs,0,none⟩))).heap[V.heap.size]?=_;rw [aU e1];rfl
 ·intro x hx h0
  cases x with
  |head=>exact absurd rfl h0
  |rF=>
   obtain ⟨a,cap,mb,k1,k2,k3,k4⟩:=ht;have bC:∀k,F1 k->¬k=V.heap.size:=fun k hk e=>by have:=(jj k hk).1;omega
   refine ⟨a,cap,mb, ?_,(k2.below Gs).mod hm (fun k hk=>bC k (k4 k hk)),k3,k4⟩;have e1:w2.heap[bt]?=_:=(Gs.block _ (jj _ k3).2).trans k1;show(w2.setCell ⟨V.heap.size,8,none⟩ (.pointer (some ⟨bs,0,none⟩))).heap[bt]?=_;rw [hm.block _ (aab.1 e1).1 (bC _ k3)];exact e1
  |slt=>
   obtain ⟨a,cap,k1,k2,k3,k4⟩:=hsl;have bC:∀k,F2 k->¬k=V.heap.size:=fun k hk e=>by have:=(oZ k hk).1;omega
   refine ⟨a,cap, ?_,k2.mod hm (fun k hk=>bC k (k4 k hk)),k3,k4⟩;show(w2.setCell ⟨V.heap.size,8,none⟩ (.pointer (some ⟨bs,0,none⟩))).heap[bs]?=_;rw [hm.block _ (aab.1 k1).1 (bC _ k3)];exact k1
  |part i=>exact absurd (show i<0 from hx) (aao i)
  |kB i=>exact absurd (show i<0 from hx) (aao i)
  |dU i=>exact absurd (show i<0 from hx) (aao i)
  |proc i=>exact absurd (show i<0 from hx) (aao i)
  |jQ i=>exact absurd (show i<0 from hx) (aao i)
 ·intro x hx k hk
  cases x with
  |head=>
   have jk:k=V.heap.size:=hk;subst jk;exact ⟨aag _,by omega⟩
  |rF=>have:=jj k hk;exact ⟨by omega,by omega⟩
  |slt=>have:=oZ k hk;have:=Ef.size;exact ⟨by omega,by omega⟩
  |_=>exact absurd hk id
 ·intro x y hx hy ml k h1 h2
  cases x with
  |head=>
   have jY:k=V.heap.size:=h1
   cases y with
   |head=>exact absurd rfl ml
   |rF=>have:=jj k h2;omega
   |slt=>have:=oZ k h2;omega
   |_=>exact h2
  |rF=>
   have g1:=jj k h1
   cases y with
   |head=>have oM:k=V.heap.size:=h2;omega
   |rF=>exact absurd rfl ml
   |slt=>have:=oZ k h2;omega
   |_=>exact h2
  |slt=>
   have g1:=oZ k h1
   cases y with
   |head=>have oM:k=V.heap.size:=h2;omega
   |rF=>have:=jj k h2;omega
   |slt=>exact absurd rfl ml
   |_=>exact h2
  |_=>exact h1
 ·exact ((Ef.trans (Gs.mono Ef.size))).setCell (aag _) _
theorem info_ppart:(prog.info? 166).map (fun i=>(i.zero,i.size,i.bytes))=some (some (.pointer none),1,8):=by kernel_rfl
theorem Sn:(prog.info? 168).map (fun i=>(i.zero,i.size,i.bytes))=some (some (.pointer none),1,8):=by kernel_rfl
theorem N5(G:Nat):∀u∈[Value.pointer (some ⟨G,0,none⟩)],u.oneCell'=true:=by
 intro u hu;rcases aaL.1 hu with rfl;rfl
theorem uH.nK{wc:World}{c:ak}{ap:Option Addr}{cp:Nat}(h:uH V c g K m j 0 0 0 wr ap cp none 0)(hj:j<=8)(hb:Below wr.heap.size wr wc){G:Nat}{cc bw:Nat}{FW:Nat->Prop}{bl:Nat}{FL:Nat->Prop}(hL:Kt wc j (aM m j) w1 G a cc bw FW bl FL):
 (∀W,Below wr.heap.size wr W->W.cell? ⟨V.heap.size,10,none⟩=some (.slice ap j cp))/\∃a' c' w2,(∀ty,(Builtin.append_ #[160,160] ty #[.slice ap j cp,.slice (some ⟨w1.heap.size,0,none⟩) 1 1]).run prog (w1.alloc (.cells #[.pointer (some ⟨G,0,none⟩)] 166))=.ok (.slice a' (j+1) c') w2)/\
  (∃u,w2.cell? ⟨V.heap.size,10,none⟩=some u)/\w2.frozen? ⟨V.heap.size,10,none⟩=false/\uH V c g K m (j+1) 0 0 0 (w2.setCell ⟨V.heap.size,10,none⟩ (.slice a' (j+1) c')) a' c' none 0:=by
 obtain ⟨l,Fs,hW,rfl,rfl,fW,CS⟩:=h;have kY:=hW.b;have hI:=hW.i.below hb;have h1:=hI.below hL.au;refine ⟨fun W hBW=> ?_, ?_⟩
 ·have hh:=(hW.i.below hBW).hh.hd;rw [kY]at hh;rw [aaa _ _ _ _ _ _ hh];rfl
 ·obtain ⟨a',c',w2,q1,q2,q3,q4⟩:=BQ (T:=160) underlying160 info_ppart rfl (by omega) h1.hh.rp (by omega) [.pointer (some ⟨G,0,none⟩)] rfl (N5 G);have cQ:=(aab.1 h1.hh.hd).1;have e2:w2.heap[l.bm]?=_:=(q3.block _ cQ (fun e=>(h1.hh.n1 _ e).1 rfl)).trans h1.hh.hd;obtain ⟨bG,h2⟩:=hI.nK hL q2 q3 (fun k hk=>(q4 k hk).imp id (fun e=>Nat.le_of_lt e));rw [kY]at e2 h2;exact ⟨a',c',w2,q1,⟨_,by rw [aaa _ _ _ _ _ _ e2];rfl⟩,by simp [World.frozen?,e2],_,bG,⟨h2,hW.c,hW.g,hW.k,kY⟩,rfl,rfl,fW,CS⟩
theorem iY.pushR{Fs:Ix->Nat->Prop}(h:iY V l m np (q+1) q q wr Fs)(hq:q<l.c.procs.length)(h32:l.c.procs.length<=32)(hi:pa l.c q<np)(wm:(l.c.procs.getD q default).part=(pa l.c q:Int)){n:Nat}(zn:l.bp (pa l.c q)=bp)(hn:(aQ (fT l.c q) (pa l.c q)).length=n)(oO:l.bq q=bq):
 wr.cell? ⟨bp,1,none⟩=some (.slice (l.ar (pa l.c q)) n (l.cr (pa l.c q)))/\∃a' c' w2,(∀ty,(Builtin.append_ #[161,161] ty #[.slice (l.ar (pa l.c q)) n (l.cr (pa l.c q)),.slice (some ⟨wr.heap.size,0,none⟩) 1 1]).run prog (wr.alloc (.cells #[.pointer (some ⟨bq,0,none⟩)] 168))=.ok (.slice a' (n+1) c') w2)/\
  (∃u,w2.cell? ⟨bp,1,none⟩=some u)/\w2.frozen? ⟨bp,1,none⟩=false/\∃bG,iY V (l.uT (pa l.c q) a' c') m np (q+1) (q+1) q (w2.setCell ⟨bp,1,none⟩ (.slice a' (n+1) c')) bG:=by
 obtain ⟨la,lc,c1,c2,c3,c4,c5,c6,c7,c8,c9⟩:=h.cmp (.part (pa l.c q)) hi (by simp);simp only [Lay.tr,oK,rH]at c1 c2 c4;have hlen:n<=32:=by
  have:=JP (fT l.c q) (pa l.c q);simp only [fT,List.length_take]at this;unfold fT at hn;omega
 rw [hn]at c1 c2;obtain ⟨a',c',w2,q1,q2,q3,q4⟩:=BQ (T:=161) underlying161 Sn rfl (by omega) c2 (by omega) [.pointer (some ⟨bq,0,none⟩)] rfl (N5 bq);have cQ:=(aab.1 c1).1;have e2:w2.heap[l.bp (pa l.c q)]?=_:=(q3.block _ cQ (fun e=>c4 e)).trans c1;rw [<-oO]at q2;obtain ⟨bG,h2⟩:=h.uT hq hi wm hn.symm q2 q3 (fun k hk=>(q4 k hk).imp id (fun e=>Nat.le_of_lt e));rw [zn]at e2 h2 c1;exact ⟨by rw [aaa _ _ _ _ _ _ c1];rfl,a',c',w2,q1,⟨_,by rw [aaa _ _ _ _ _ _ e2];rfl⟩,by simp [World.frozen?,e2],bG,h2⟩
theorem iY.pushS{Fs:Ix->Nat->Prop}(h:iY V l m np (q+1) (q+1) q wr Fs)(h32:q<=32){bm:Nat}(kY:l.bm=bm)(oO:l.bq q=bq):
 wr.cell? ⟨bm,11,none⟩=some (.slice l.aq q l.cq)/\∃a' c' w2,(∀ty,(Builtin.append_ #[161,161] ty #[.slice l.aq q l.cq,.slice (some ⟨wr.heap.size,0,none⟩) 1 1]).run prog (wr.alloc (.cells #[.pointer (some ⟨bq,0,none⟩)] 168))=.ok (.slice a' (q+1) c') w2)/\
  (∃u,w2.cell? ⟨bm,11,none⟩=some u)/\w2.frozen? ⟨bm,11,none⟩=false/\∃bG,iY V (l.Kw a' c') m np (q+1) (q+1) (q+1) (w2.setCell ⟨bm,11,none⟩ (.slice a' (q+1) c')) bG:=by
 obtain ⟨a',c',w2,q1,q2,q3,q4⟩:=BQ (T:=161) underlying161 Sn rfl (by omega) h.hh.rq (by omega) [.pointer (some ⟨bq,0,none⟩)] rfl (N5 bq);have cQ:=(aab.1 h.hh.hd).1;have e1:=h.hh.hd;have e2:w2.heap[l.bm]?=_:=(q3.block _ cQ (fun e=>h.hh.n2 _ e rfl)).trans h.hh.hd;rw [<-oO]at q2;obtain ⟨bG,h2⟩:=h.Kw q2 q3 (fun k hk=>(q4 k hk).imp id (fun e=>Nat.le_of_lt e));rw [kY]at e1 e2 h2;exact ⟨by rw [aaa _ _ _ _ _ _ e1];rfl,a',c',w2,q1,⟨_,by rw [aaa _ _ _ _ _ _ e2];rfl⟩,by simp [World.frozen?,e2],bG,h2⟩
theorem LU.lay{wd:World}{c:ak}{Fs:Ix->Nat->Prop}(hW:LU V c g K m np i i i wr l Fs)(hi:i<c.procs.length)(h32:c.procs.length<=32){ip M:Nat}(Iy:pa c i=ip)(Xr:ip<np)(wm:(c.procs.getD i default).part=(ip:Int))(zn:l.bp ip=bp)(hM:V.heap.size=M)
 (hb:Below wr.heap.size wr wd)(oO:wr.heap.size<=bq)(cQ:bq<wd.heap.size){L:List aZ.Th}(hL:kC (fT c i) m ip L){bo:Nat}{FP iX:Nat->Prop}(hA:nJ wd i bp (g.ms.getD i default).a (cd c i).length (g.ms.getD i default).c (aB m i) bq (l.bw ip) (Fs (.dU ip)) (wJ i (aB m i).bE (lI i (aB m i).timer L)) w1 bo FP iX):
 ∃ar n cr a' c' w2,w1.cell? ⟨bp,1,none⟩=some (.slice ar n cr)/\(∀ty,(Builtin.append_ #[161,161] ty #[.slice ar n cr,.slice (some ⟨w1.heap.size,0,none⟩) 1 1]).run prog (w1.alloc (.cells #[.pointer (some ⟨bq,0,none⟩)] 168))=.ok (.slice a' (n+1) c') w2)/\(∃u,w2.cell? ⟨bp,1,none⟩=some u)/\w2.frozen? ⟨bp,1,none⟩=false/\
  ∀w3,w2.setCell ⟨bp,1,none⟩ (.slice a' (n+1) c')=w3->w3.cell? ⟨M,11,none⟩=some (.slice l.aq i l.cq)/\∃a2 c2 w4,(∀ty,(Builtin.append_ #[161,161] ty #[.slice l.aq i l.cq,.slice (some ⟨w3.heap.size,0,none⟩) 1 1]).run prog (w3.alloc (.cells #[.pointer (some ⟨bq,0,none⟩)] 168))=.ok (.slice a2 (i+1) c2) w4)/\(∃u,w4.cell? ⟨M,11,none⟩=some u)/\w4.frozen? ⟨M,11,none⟩=false/\
   uH V c g K m np (i+1) (i+1) (i+1) (w4.setCell ⟨M,11,none⟩ (.slice a2 (i+1) c2)) l.ap l.cp a2 c2:=by
 obtain ⟨h,rfl,rfl,rfl,kY⟩:=hW;subst Iy zn hM;obtain ⟨Fs1,h1⟩:=h.kR hi Xr wm hb oO cQ hL hA;have fW:(l.kR i bq bo).bq i=bq:=mE _ _ _;obtain ⟨k1,a',c',w2,k2,k3,k4,QC,h2⟩:=h1.pushR (bp:=l.bp (pa l.c i)) (bq:=bq) hi h32 Xr wm rfl rfl fW;refine ⟨_,_,_,a',c',w2,k1,k2,k3,k4,fun w3 e3=> ?_⟩;have h3:iY V ((l.kR i bq bo).uT (pa (l.kR i bq bo).c i) a' c') m np (i+1) (i+1) i w3 QC:=by
  rw [<-e3];exact h2
 obtain ⟨j1,a2,c2,w4,j2,j3,j4,Fs3,h4⟩:=h3.pushS (by omega) (bm:=V.heap.size) kY fW;exact ⟨j1,a2,c2,w4,j2,j3,j4,_,Fs3,⟨h4,rfl,rfl,rfl,kY⟩,rfl,rfl,rfl,rfl⟩
def EW(m:MS)(a:Option Addr)(ca:Nat)(b:Option Addr)(cb:Nat):Array Value:=#[.int .i64 m.tick,.slice a m.pt.length ca,.slice b m.pr.length cb]
def Rt(c:ak)(g:Loc)(tick:Int)(t:Option Addr):Array Value:=#[.slice g.la c.labels.length g.lc,.slice g.ta c.table.length g.tc,.int .i64 c.fuel,.int .i64 c.lane,.int .i64 c.aF,.int .i64 c.log,.slice g.pa c.procs.length g.pc,.pointer t,.pointer none,.int .i64 tick,.slice none 0 0,.slice none 0 0]
structure Dl(w V:World)(c:ak)(g:Loc)(m:MS)(a:Option Addr)(ca:Nat)(b:Option Addr)(cb:Nat)(V1:World)(t:Option Addr):Prop where
 au:Below w.heap.size w V
 size:V.heap.size=w.heap.size+2
 cf:V.heap[w.heap.size]?=some (.cells (a_ c g) 26 (0,0))
 st:V.heap[w.heap.size+1]?=some (.cells (EW m a ca b cb) 78 (0,0))
 m1:V1.heap[V.heap.size]?=some (.cells (Rt c g m.tick t) 163 (0,0))
 b1:Below V.heap.size V V1
theorem ldS_start(w:World)(c:ak)(g:Loc)(m:MS)(a:Option Addr)(ca:Nat)(b:Option Addr)(cb:Nat):
 Dl w ((w.alloc (.cells (a_ c g) 26)).alloc (.cells (EW m a ca b cb) 78)) c g m a ca b cb (((w.alloc (.cells (a_ c g) 26)).alloc (.cells (EW m a ca b cb) 78)).alloc (.cells (Rt c g m.tick none) 163)) none:=by
 have e:(w.alloc (.cells (a_ c g) 26)).heap.size=w.heap.size+1:=by simp
 have h1:=aae w (.cells (a_ c g) 26);have h2:=aae (w.alloc (.cells (a_ c g) 26)) (.cells (EW m a ca b cb) 78);rw [e]at h2;exact ⟨(aA w _).alloc (by omega) _,by simp,((aA (w.alloc (.cells (a_ c g) 26)) _).block _ (by omega)).trans h1,h2,aae _ _,aA _ _⟩
theorem Dl.box{c:ak}{t:Option Addr}(h:Dl w V c g m a ca b cb V1 t)(W:World)(hb:Below V.heap.size V W):
 (W.cell? ⟨w.heap.size,0,none⟩=some (.slice g.la c.labels.length g.lc)/\W.cell? ⟨w.heap.size,1,none⟩=some (.slice g.ta c.table.length g.tc)/\W.cell? ⟨w.heap.size,3,none⟩=some (.int .i64 c.lane)/\W.cell? ⟨w.heap.size,6,none⟩=some (.slice g.pa c.procs.length g.pc))/\
 W.cell? ⟨w.heap.size+1,1,none⟩=some (.slice a m.pt.length ca)/\W.cell? ⟨w.heap.size+1,2,none⟩=some (.slice b m.pr.length cb):=by
 have hs:=h.size;have e1:W.heap[w.heap.size]?=_:=(hb.block _ (by omega)).trans h.cf;have e2:W.heap[w.heap.size+1]?=_:=(hb.block _ (by omega)).trans h.st;refine ⟨⟨?_, ?_, ?_, ?_⟩, ?_, ?_⟩
 ·rw [aaa _ _ _ _ _ _ e1];rfl
 ·rw [aaa _ _ _ _ _ _ e1];rfl
 ·rw [aaa _ _ _ _ _ _ e1];rfl
 ·rw [aaa _ _ _ _ _ _ e1];rfl
 ·rw [aaa _ _ _ _ _ _ e2];rfl
 ·rw [aaa _ _ _ _ _ _ e2];rfl
theorem Dl.qh{c:ak}(h:Dl w V c g m a ca b cb V1 none)(hb:Below V1.heap.size V1 w1):Dl w V c g m a ca b cb (w1.setCell ⟨V.heap.size,7,none⟩ (.pointer (some ⟨bt,0,none⟩))) (some ⟨bt,0,none⟩):=by
 have e1:w1.heap[V.heap.size]?=_:=(hb.block _ (aab.1 h.m1).1).trans h.m1;refine ⟨h.au,h.size,h.cf,h.st, ?_,(h.b1.trans (hb.mono h.b1.size)).setCell (aag _) _⟩;rw [aU e1];rfl
theorem wok_len32{c:ak}{L:List aZ.Th}(h:kC c m i L)(hg:aZ.gA L)(h32:c.procs.length<=32):L.length<=64:=by
 have h1:=BP (2*c.procs.length) (L.map (·.2)) (Vx L hg.qZ) (fun x hx=>by
  obtain ⟨t,ht,rfl⟩:=abm.1 hx;obtain ⟨p,hp,⟨rfl,_⟩|⟨rfl,_⟩⟩:=(h t).1 ht
  ·have:=(kG.1 hp).1;simp only
   omega
  ·have:=(kG.1 hp).1;simp only
   omega)
 simp at h1;omega
theorem Aq.mod{w':World}{b:Nat}{F S:Nat->Prop}{l:List Nat}(h:Aq w b F l)(hm:Mod S w w')(hn:∀k,F k->¬S k):Aq w' b F l:=by
 obtain ⟨a,cap,mb,h1,h2,h3,h4⟩:=h;exact ⟨a,cap,mb,by rw [hm.block b (aab.1 h1).1 (hn _ h3)];exact h1,h2.mod hm (fun k hk=>hn k (h4 k hk)),h3,h4⟩
theorem N6:∀(l:List iM) (j i:Nat),j<l.length->i<6->(uR l)[j*6+i]?=(lh (l.getD j default))[i]?
 |[],j,_,h,_=>absurd h (aao j)
 |t::ts,0,i,_,hi=>by
  simp only [uR,List.flatMap_cons,List.getD_cons_zero,Nat.zero_mul,Nat.zero_add];rw [aaE (by rw [show(lh t).length=6 from rfl];exact hi)]
 |t::ts,j+1,i,h,hi=>by
  have ih:=N6 ts j i (by simpa using h) hi;have hl:(lh t).length=6:=rfl;simp only [uR,List.flatMap_cons,List.getD_cons_succ]at*
  rw [aan (by omega),hl,show(j+1)*6+i-6=j*6+i by omega];exact ih
theorem N7:∀(l:List iN) (j i:Nat),j<l.length->i<15->(uS l)[j*15+i]?=(lz (l.getD j default))[i]?
 |[],j,_,h,_=>absurd h (aao j)
 |t::ts,0,i,_,hi=>by
  simp only [uS,List.flatMap_cons,List.getD_cons_zero,Nat.zero_mul,Nat.zero_add];rw [aaE (by rw [show(lz t).length=15 from rfl];exact hi)]
 |t::ts,j+1,i,h,hi=>by
  have ih:=N7 ts j i (by simpa using h) hi;have hl:(lz t).length=15:=rfl;simp only [uS,List.flatMap_cons,List.getD_cons_succ]at*
  rw [aan (by omega),hl,show(j+1)*15+i-15=j*15+i by omega];exact ih
theorem rd_part{ps:List iM}(h:Rd w a (uR ps))(hj:j<ps.length):∃ba oa,a=some ⟨ba,oa,none⟩/\∀W,Below w.heap.size w W->∀i u,i<6->(lh (ps.getD j default))[i]?=some u->W.cell? ⟨ba,oa+j*6+i,none⟩=some u:=by
 obtain ⟨ba,oa,e,_⟩:=h (j*6+0) _ (N6 ps j 0 hj (by omega));refine ⟨ba,oa,e,fun W hb i u hi hu=> ?_⟩;obtain ⟨b2,o2,e2,h2⟩:=h (j*6+i) u (by rw [N6 ps j i hj hi];exact hu);rw [e]at e2
 cases e2
 rw [abw];exact (hb.cell (aaj w _ h2)).trans h2
theorem rd_proc{qs:List iN}(h:Rd w a (uS qs))(hj:j<qs.length):∃ba oa,a=some ⟨ba,oa,none⟩/\∀W,Below w.heap.size w W->∀i u,i<15->(lz (qs.getD j default))[i]?=some u->W.cell? ⟨ba,oa+j*15+i,none⟩=some u:=by
 obtain ⟨ba,oa,e,_⟩:=h (j*15+0) _ (N7 qs j 0 hj (by omega));refine ⟨ba,oa,e,fun W hb i u hi hu=> ?_⟩;obtain ⟨b2,o2,e2,h2⟩:=h (j*15+i) u (by rw [N7 qs j i hj hi];exact hu);rw [e]at e2
 cases e2
 rw [abw];exact (hb.cell (aaj w _ h2)).trans h2
theorem Nk(c:ak)(g:Loc)(m:MS)(ps:List iM)(a:Option Addr)(ca:Nat)(qs:List iN)(b:Option Addr)(cb:Nat)(w:World)(hR:fD w c g)(hF:bR w)(Zh:eQ w)(hK:∀k,tq g k->k<w.heap.size)(hS:Rm w c.lane.toNat m ps a qs b)(hO:OT c m):
 Calls prog 61 #[ct c g,xE m a ca b cb] w (OU w c g (tq g) m):=by
 have HO:=hd hO;have HR:=hd hR;have fP:=hd hS;have HKL:=hd hK;have uU:=hd hF;have HLM:=hd Zh;obtain ⟨Q,hQ⟩:=Haa (OU w c g (tq g) m);rw [hQ.out];have h0:=ldS_start w c g m a ca b cb;obtain ⟨V,hV⟩:=Haa ((w.alloc (.cells (a_ c g) 26)).alloc (.cells (EW m a ca b cb) 78));rw [hV.out]at h0;have H0:=hd h0;clear h0 hO hR hS hK hF Zh;unfold ct xE a_;unfold a_ EW at hV;unfold Rt at H0;go_enter func61,ntmps61;go_upto_region 2 with fail;rw [hV.out];obtain ⟨V1,zo⟩:=Haa (V.alloc (.cells #[.slice g.la c.labels.length g.lc,.slice g.ta c.table.length g.tc,.int .i64 c.fuel,.int .i64 c.lane,.int .i64 c.aF,.int .i64 c.log,.slice g.pa c.procs.length g.pc,.pointer none,.pointer none,.int .i64 m.tick,.slice none 0 0,.slice none 0 0] 163));rw [zo.out]at H0⊢;clear hV zo;obtain ⟨B,hB⟩:=Haa w.heap.size;obtain ⟨B1,dM⟩:=Haa (B+1);obtain ⟨M,hM⟩:=Haa (B1+1);have Dm:Hid (V.heap.size=M):=hd (by have:=H0.out.size;have:=hB.out;have:=dM.out;have:=hM.out;omega);obtain ⟨np,dI⟩:=Haa c.labels.length;obtain ⟨nq,dV⟩:=Haa c.procs.length;have Ru:Hid (m.pt.length=np):=hd (HO.out.tg.np.trans dI.out);have Rv:Hid (m.pr.length=nq):=hd (HO.out.tg.nq.trans dV.out);have Xk:np<=8:=by rw [<-dI.out];exact HO.out.cfg.n8
 have Xs:1<=np:=by rw [<-dI.out];exact HO.out.cfg.n1
 have Wj:nq<=32:=by rw [<-dV.out];exact HO.out.cfg.k_
 have HD:Hid (∀W,Below V.heap.size V W->(W.cell? ⟨B,0,none⟩=some (.slice g.la np g.lc)/\W.cell? ⟨B,1,none⟩=some (.slice g.ta c.table.length g.tc)/\W.cell? ⟨B,3,none⟩=some (.int .i64 c.lane)/\W.cell? ⟨B,6,none⟩=some (.slice g.pa nq g.pc))/\W.cell? ⟨B1,1,none⟩=some (.slice a np ca)/\W.cell? ⟨B1,2,none⟩=some (.slice b nq cb)):=hd (fun W hb=>by
  have h:=H0.out.box W hb;rw [hB.out,dM.out,dI.out,dV.out,Ru.out,Rv.out]at h
  exact h)
 rw [hB.out,dM.out,hM.out,dI.out,dV.out,Ru.out,Rv.out];have xF:Hid (∀W,Below V.heap.size V W->Below w.heap.size w W):=hd (fun W hb=>H0.out.au.trans (hb.mono (by have:=H0.out.size;omega)));have hT:=tnew_any g.la g.lc c.labels V1 (HR.out.pY.below (xF.out V1 H0.out.b1)) HO.out.lab0 HO.out.cfg.pY;rw [dI.out]at hT
 have HT:Hid (∀e w1,DZ V1 (fun W b F=>Aq W b F c.labels) e w1->∃bt,e=.returned (.tuple #[.pointer (some ⟨bt,0,none⟩),.int .i64 0,.int .i64 0])/\(w1.cell? ⟨M,7,none⟩=some (.pointer none)/\w1.frozen? ⟨M,7,none⟩=false)/\
  Hid (∃F1,Dl w V c g m a ca b cb (w1.setCell ⟨M,7,none⟩ (.pointer (some ⟨bt,0,none⟩))) (some ⟨bt,0,none⟩)/\Aq (w1.setCell ⟨M,7,none⟩ (.pointer (some ⟨bt,0,none⟩))) bt F1 c.labels/\∀k,F1 k->V.heap.size<k/\k<(w1.setCell ⟨M,7,none⟩ (.pointer (some ⟨bt,0,none⟩))).heap.size)):=hd (by
  rintro e w1 ⟨bt,F1,rfl,k1,k2,k3⟩;have Rw:=Dm.out;have hl:=(aab.1 H0.out.m1).1;have e1:w1.heap[V.heap.size]?=_:=(k3.block _ hl).trans H0.out.m1;have hm:Mod (fun k=>k=M) w1 (w1.setCell ⟨M,7,none⟩ (.pointer (some ⟨bt,0,none⟩))):=dP _ _ _ _;have ht:=H0.out.qh (bt:=bt) k3;rw [Rw]at e1 ht;refine ⟨bt,rfl,⟨by rw [aaa _ _ _ _ _ _ e1];rfl,by simp [World.frozen?,e1]⟩,hd ⟨F1,ht,k1.mod hm (fun k hk e=>by have:=(k2 k hk).1;omega),fun k hk=> ?_⟩⟩;have:=k2 k hk;have:=hm.size
  omega)
 obtain ⟨N1,iz⟩:∃N:Ending->World->Prop,Hid (DZ V1 (fun W b F=>Aq W b F c.labels)=N):=⟨_,rfl⟩;rw [iz.out]at hT HT;obtain ⟨⟨d0,-,-,-⟩,-,-⟩:=HD.out V1 H0.out.b1;clear iz H0;go_upto_region 3 with(go_at_call 88;(with_reducible refine hT.mono ?_);rintro e w1 hO;obtain ⟨bt,rfl,⟨y1,y2⟩,HY⟩:=HT.out e w1 hO;clear hO);obtain ⟨V2,zr⟩:=Haa (w1.setCell ⟨M,7,none⟩ (.pointer (some ⟨bt,0,none⟩)));rw [zr.out]at HY⊢;obtain ⟨F1,h1,h2,h3⟩:=HY.out;have H1:=hd h1;have H2:=hd h2;have H3:=hd h3;clear zr HY h1 h2 h3 hT HT y1 y2 d0;have hT:=slnew_any g.ta g.tc c.table (np:Int) V2 (HR.out.qh.below (xF.out V2 H1.out.b1)) (by omega) (by omega) HO.out.cfg.t1 HO.out.cfg.t64 (by rw [<-dI.out];exact HO.out.cfg.qh)
 have HT:Hid (∀e w1,DZ V2 (fun W b F=>Ks W b F c.table) e w1->∃bs,e=.returned (.tuple #[.pointer (some ⟨bs,0,none⟩),.int .i64 0,.int .i64 0])/\(w1.cell? ⟨M,8,none⟩=some (.pointer none)/\w1.frozen? ⟨M,8,none⟩=false)/\
  Hid (uH V c g (tq g) m 0 0 0 0 (w1.setCell ⟨M,8,none⟩ (.pointer (some ⟨bs,0,none⟩))) none 0 none 0)):=hd (by
  rintro e w1 ⟨bs,F2,rfl,k1,k2,k3⟩;have Rw:=Dm.out;have hl:=(aab.1 H1.out.m1).1;have e1:w1.heap[V.heap.size]?=_:=(k3.block _ hl).trans H1.out.m1;have hx:=ldX_start (K:=tq g) H1.out.m1 H1.out.b1 H2.out H3.out k3 k1 k2;rw [Rw]at e1 hx
  exact ⟨bs,rfl,⟨by rw [aaa _ _ _ _ _ _ e1];rfl,by simp [World.frozen?,e1]⟩,hd hx⟩)
 obtain ⟨N1,iz⟩:∃N:Ending->World->Prop,Hid (DZ V2 (fun W b F=>Ks W b F c.table)=N):=⟨_,rfl⟩;rw [iz.out]at hT HT;obtain ⟨⟨d0,d1,-,-⟩,-,-⟩:=HD.out V2 H1.out.b1;clear iz H1 H2 H3;go_upto_region 4 with(go_at_call 39;(with_reducible refine hT.mono ?_);rintro e w2 hO;obtain ⟨bs,rfl,⟨y1,y2⟩,HY⟩:=HT.out e w2 hO;clear hO);obtain ⟨V3,EX⟩:=Haa (w2.setCell ⟨M,8,none⟩ (.pointer (some ⟨bs,0,none⟩)));rw [EX.out]at HY⊢;clear EX hT HT y1 y2 d0 d1
 have lZ:Hid (∀j aa bb q wr ap cp aq cq,uH V c g (tq g) m j aa bb q wr ap cp aq cq->Below V.heap.size V wr):=hd (by
  rintro j aa bb q wr ap cp aq cq ⟨l,Fs,h,-⟩
  exact h.i.au)
 obtain ⟨-,d1,-⟩:=HD.out V3 (lZ.out _ _ _ _ _ _ _ _ _ HY.out);go_wp2_with fail;go_loopg [43] np (fun k v43 wr=>∃(j:Nat),v43=.int .i64 (j:Int)/\j+k=np/\Hid (∃ap cp,uH V c g (tq g) m j 0 0 0 wr ap cp none 0))
 case atStart=>exact ⟨0,rfl,by omega,hd ⟨none,0,HY.out⟩⟩
 case round=>
  obtain ⟨j,rfl,ug,HH⟩:=hrel;clear HY d1;obtain ⟨ap,cp,hX⟩:=HH.out;clear HH;by_cases af:j<np
  · have fI:(j:Int)<(np:Int):=by omega
    have yC:j<ps.length:=by have:=Ru.out;rw [<-fP.out.np,aa3]at this;omega
    obtain ⟨ba,oa,rfl,hcell⟩:=rd_part fP.out.rp yC;have iO:=hcell wr (xF.out wr (lZ.out _ _ _ _ _ _ _ _ _ hX));obtain ⟨t,ht⟩:=Haa (ps.getD j default);rw [ht.out]at iO;have p0:wr.cell? ⟨ba,oa+j*6,none⟩=some (.int .i64 (t.x.cur:Int)):=iO 0 _ (by omega) rfl;have p1:=iO 1 _ (by omega) rfl;have p2:=iO 2 _ (by omega) rfl;have p3:=iO 3 _ (by omega) rfl;have p4:=iO 4 _ (by omega) rfl;have p5:=iO 5 _ (by omega) rfl;have vK:=hd hX;clear hX hcell iO;go_upto_region 7 with fail;obtain ⟨Wc,zt⟩:=Haa (wr.alloc (.cells #[.int .i64 (t.x.cur:Int),.slice t.la t.x.log.length t.lc,.int .i64 t.x.lost,.int .i64 t.x.fC,.slice t.oa t.x.os.length t.oc,.slice t.qa t.x.os.length t.qc] 109));have fS:Below wr.heap.size wr Wc:=by rw [<-zt.out];exact aA wr _
    have o_:Wc.heap[wr.heap.size]?=some (.cells #[.int .i64 (t.x.cur:Int),.slice t.la t.x.log.length t.lc,.int .i64 t.x.lost,.int .i64 t.x.fC,.slice t.oa t.x.os.length t.oc,.slice t.qa t.x.os.length t.qc] 109 (0,0)):=by rw [<-zt.out];exact aae wr _
    rw [zt.out];obtain ⟨gp,xG⟩:=Haa wr.heap.size;rw [xG.out]at o_⊢;have z0:=aaa Wc gp 0 _ _ _ o_;have z1:=aaa Wc gp 1 _ _ _ o_;have z2:=aaa Wc gp 2 _ _ _ o_;have z3:=aaa Wc gp 3 _ _ _ o_;have z4:=aaa Wc gp 4 _ _ _ o_;have z5:=aaa Wc gp 5 _ _ _ o_;have jG:j<c.labels.length:=by rw [dI.out];exact af
    have lY:t.x=aM m j:=by rw [<-ht.out];exact VD fP.out.np yC
    have iL:=HO.out.tg.Ig jG;have KI:=HO.out.tg.log j jG;have H_:=HO.out.cfg.We;have Cy:=HO.out.cfg.k_;have aJ:=laidPart_any j t Wc.drew (by rw [<-ht.out];exact (fP.out.pp j yC).below (xF.out _ ((lZ.out _ _ _ _ _ _ _ _ _ vK.out).trans ((fS.drew).mono (lZ.out _ _ _ _ _ _ _ _ _ vK.out).size)))) (by rw [lY];omega) (by rw [lY];exact iL.good.le)
     (fun o ho=>by
       rw [lY]at ho
       rcases iL.own o ho with e|⟨e1,e2⟩
       · subst e;exact ⟨by omega,by omega⟩
       · exact ⟨by omega,by omega⟩)
     (fun i p hp=>by
       rw [lY]at hp
       obtain ⟨e1,e2⟩:=iL.rG i p hp
       exact ⟨by omega,by omega⟩)
     (by rw [lY];exact Nat.lt_of_le_of_lt (iL.total HO.out.cfg) (by decide))
     (by rw [lY];exact HO.out.lay j jG)
    unfold Lx lh at aJ
    have HN:Hid (∀e w1,OP Wc.drew j t.x e w1->∃(Gp:Nat) (a':Option Addr) (c':Nat) (w2:World),e=.returned (.pointer (some ⟨Gp,0,none⟩))/\(∀W,Below w1.heap.size w1 W->W.cell? ⟨M,10,none⟩=some (.slice ap j cp))/\
     (∀ty,(Builtin.append_ #[160,160] ty #[.slice ap j cp,.slice (some ⟨w1.heap.size,0,none⟩) 1 1]).run prog (w1.alloc (.cells #[.pointer (some ⟨Gp,0,none⟩)] 166))=.ok (.slice a' (j+1) c') w2)/\(∃u,w2.cell? ⟨M,10,none⟩=some u)/\w2.frozen? ⟨M,10,none⟩=false/\
     Hid (uH V c g (tq g) m (j+1) 0 0 0 (w2.setCell ⟨M,10,none⟩ (.slice a' (j+1) c')) a' c' none 0)):=hd (by
     rintro e w1 ⟨Gp,al,cl,bw,FW,bl,FL,rfl,hL⟩;rw [lY]at hL;obtain ⟨k1,a',c',w2,k2,k3,k4,k5⟩:=vK.out.nK (by omega) fS.drew hL;rw [Dm.out]at k1 k3 k4 k5;have aj:Below wr.heap.size wr w1:=fS.drew.trans (hL.au.mono fS.size)
     exact ⟨Gp,a',c',w2,rfl,fun W hW=>k1 W (aj.trans (hW.mono aj.size)),k2,k3,k4,hd k5⟩)
    have x1:Wc.cell? ⟨M,10,none⟩=some (.slice ap j cp):=by
     obtain ⟨l,Fs,hW,rfl,rfl,-,-⟩:=vK.out;have hh:=(hW.i.below fS).hh.hd;rw [hW.b,Dm.out]at hh;rw [aaa _ _ _ _ _ _ hh];rfl
    clear o_ zt lY iL KI H_ Cy p0 p1 p2 p3 p4 p5 yC jG
    go_region_law (first
     |(go_simp;(with_reducible refine aJ.mono ?_);rintro e w1 he;obtain ⟨Gp,a',c',w2,rfl,y1,y2,⟨yu,y3⟩,y4,HY⟩:=HN.out e w1 he;have y0:=y1 w1 (aak _ _);have yA:∀ob,(w1.alloc ob).cell? ⟨M,10,none⟩=some (.slice ap j cp):=(fun ob=>y1 _ (aA w1 ob));replace y2:=hd y2;clear he y1)
     |(refine aL.rN (by rfl) _ _ _ (by rfl) _ _ _ _ (by rfl) (by rfl) y2.out ?_;clear y2))
    all_goals (
     go_wp2_with fail;go_roundg (gk-1)
     case rel=>exact ⟨j+1,by go_num,by omega,hd ⟨_,_,HY.out⟩⟩
     case measure=>omega)
  · obtain rfl:j=np:=by omega
    have aj:=lZ.out _ _ _ _ _ _ _ _ _ hX;obtain ⟨-,-,d2⟩:=HD.out wr aj;have HY:Hid (uH V c g (tq g) m j 0 0 0 wr ap cp none 0):=hd hX;clear hX aj ug af;go_wp2_with fail;go_loopg [64] nq (fun k v64 wr=>∃(i:Nat),v64=.int .i64 (i:Int)/\i+k=nq/\Hid (∃aq cq,uH V c g (tq g) m j i i i wr ap cp aq cq))
    case atStart=>exact ⟨0,rfl,by omega,hd ⟨none,0,HY.out⟩⟩
    case round=>
     obtain ⟨i,rfl,dh,HH⟩:=hrel;clear HY d2;obtain ⟨aq,cq,hX⟩:=HH.out;clear HH;by_cases af:i<nq
     · have fI:(i:Int)<(nq:Int):=by omega
       have Rx:i<qs.length:=by have:=Rv.out;rw [<-fP.out.nq,aa3]at this;omega
       obtain ⟨bb,ob,rfl,hcell⟩:=rd_proc fP.out.rq Rx;have iO:=hcell wr (xF.out wr (lZ.out _ _ _ _ _ _ _ _ _ hX));obtain ⟨t,ht⟩:=Haa (qs.getD i default);rw [ht.out]at iO;have p0:wr.cell? ⟨bb,ob+i*15,none⟩=some (.int .i64 t.x.st):=iO 0 _ (by omega) rfl;have p1:=iO 1 _ (by omega) rfl;have p2:=iO 2 _ (by omega) rfl;have p3:=iO 3 _ (by omega) rfl;have p4:=iO 4 _ (by omega) rfl;have p5:=iO 5 _ (by omega) rfl;have p6:=iO 6 _ (by omega) rfl;have p7:=iO 7 _ (by omega) rfl;have p8:=iO 8 _ (by omega) rfl;have p9:=iO 9 _ (by omega) rfl;have p10:=iO 10 _ (by omega) rfl;have p11:=iO 11 _ (by omega) rfl;have p12:=iO 12 _ (by omega) rfl;have p13:=iO 13 _ (by omega) rfl;have p14:=iO 14 _ (by omega) rfl;have vK:=hd hX;clear hX hcell iO;go_upto_region 12 with fail;obtain ⟨Wc,zt⟩:=Haa (wr.alloc (.cells #[.int .i64 t.x.st,.int .i64 t.x.core.pc,.int .i64 (t.x.core.r 0),.int .i64 (t.x.core.r 1),.int .i64 (t.x.core.r 2),.int .i64 (t.x.core.r 3),.int .i64 (t.x.core.r 4),.int .i64 (t.x.core.r 5),.int .i64 (t.x.core.r 6),.int .i64 (t.x.core.r 7),.int .i64 (t.x.lc:Int),.int .i64 t.x.timer,.bool t.x.fired,.int .i64 t.x.bE,.slice t.la t.x.ss.length t.lc] 115));have fS:Below wr.heap.size wr Wc:=by rw [<-zt.out];exact aA wr _
       have LW:Hid (Wc.heap[wr.heap.size]?=some (.cells #[.int .i64 t.x.st,.int .i64 t.x.core.pc,.int .i64 (t.x.core.r 0),.int .i64 (t.x.core.r 1),.int .i64 (t.x.core.r 2),.int .i64 (t.x.core.r 3),.int .i64 (t.x.core.r 4),.int .i64 (t.x.core.r 5),.int .i64 (t.x.core.r 6),.int .i64 (t.x.core.r 7),.int .i64 (t.x.lc:Int),.int .i64 t.x.timer,.bool t.x.fired,.int .i64 t.x.bE,.slice t.la t.x.ss.length t.lc] 115 (0,0))):=hd (by rw [<-zt.out];exact aae wr _);rw [zt.out];obtain ⟨gp,xG⟩:=Haa wr.heap.size;rw [xG.out]at LW⊢;clear zt p0 p1 p2 p3 p4 p5 p6 p7 p8 p9 p10 p11 p12 p13 p14;obtain ⟨l,Fs,HL⟩:∃l Fs,Hid (LU V c g (tq g) m j i i i wr l Fs/\l.ap=ap/\l.cp=cp/\l.aq=aq/\l.cq=cq):=by
        obtain ⟨l,Fs,h⟩:=vK.out;exact ⟨l,Fs,hd h⟩
       have bP:i<c.procs.length:=by rw [dV.out];exact af
       obtain ⟨ip,Iy⟩:=Haa (pa c i);obtain ⟨bp,zn⟩:=Haa (l.bp ip);have yg:ip<j:=by rw [<-Iy.out,<-dI.out];exact HO.out.cfg.D4 bP
       have hipj':(ip:Int)<(j:Int):=by omega
       have Zi:Hid ((c.procs.getD i default).part=(ip:Int)):=hd (by have:=(HO.out.cfg.part i bP).1;rw [<-Iy.out];unfold pa;omega);obtain ⟨ga,rfl⟩:∃ga,ap=some ⟨ga,0,none⟩:=by
        obtain ⟨h1,h2,-⟩:=HL.out;rw [<-h2];exact h1.i.hh.rp.head (by omega)
       have La:Hid (Below V.heap.size V Wc):=hd ((lZ.out _ _ _ _ _ _ _ _ _ vK.out).trans (fS.mono (lZ.out _ _ _ _ _ _ _ _ _ vK.out).size));obtain ⟨am,nm,cm,HM,pb,po,PJ,HE⟩:∃am nm cm,Hid ((g.ms.getD i default).a=am/\(cd c i).length=nm/\(g.ms.getD i default).c=cm)/\∃pb po,g.pa=some ⟨pb,po,none⟩/\Hid (∀W,Below V.heap.size V W->W.cell? ⟨pb,po+i*2,none⟩=some (.int .i64 (ip:Int))/\W.cell? ⟨pb,po+i*2+1,none⟩=some (.slice am nm cm)):=by
        have jy:i<g.ms.length:=by rw [HR.out.len];exact bP
        obtain ⟨pb,po,e,_⟩:=HR.out.oN (i*2) _ (oy g.ms i jy).1;refine ⟨_,_,_,hd ⟨rfl,rfl,rfl⟩,pb,po,e,hd (fun W hb=> ?_)⟩;have hr:=HR.out.oN.below (xF.out W hb);obtain ⟨b2,o2,e2,h2⟩:=hr (i*2) _ (oy g.ms i jy).1;obtain ⟨b3,o3,e3,h3⟩:=hr (i*2+1) _ (oy g.ms i jy).2;rw [e]at e2 e3
        cases e2
        cases e3
        have qx:=HR.out.at i;rw [qx]at h2 h3;rw [Zi.out]at h2;exact ⟨h2,h3⟩
       have rl:Wc.cell? ⟨M,10,none⟩=some (.slice (some ⟨ga,0,none⟩) j cp):=by
        obtain ⟨h1,h2,h3,-⟩:=HL.out;have hh:=(h1.i.below fS).hh.hd;rw [h1.b,Dm.out]at hh;rw [aaa _ _ _ _ _ _ hh,<-h2,<-h3];rfl
       have xg:Wc.cell? ⟨ga,ip,none⟩=some (.pointer (some ⟨bp,0,none⟩)):=by
        obtain ⟨h1,h2,h3,-⟩:=HL.out;have hr:=(h1.i.below fS).hh.rp;obtain ⟨g2,e2,h4⟩:=hr.cell ip (by omega);rw [h2]at e2
        cases e2
        rw [h4,J2 _ _ (by simp;exact yg)];simp [yg,zn.out]
       obtain ⟨⟨-,-,d3,d6⟩,-,-⟩:=HD.out Wc La.out;rw [PJ]at d6;replace PJ:=hd PJ;obtain ⟨e0,e1⟩:=HE.out Wc La.out;go_region_held3 (fun w'=>w'.cell? ⟨M,10,none⟩=some (.slice (some ⟨ga,0,none⟩) j cp)/\w'.cell? ⟨ga,ip,none⟩=some (.pointer (some ⟨bp,0,none⟩))/\w'.cell? ⟨B,6,none⟩=some (.slice (some ⟨pb,po,none⟩) nq g.pc)/\w'.cell? ⟨pb,po+i*2,none⟩=some (.int .i64 (ip:Int))) (go_keep) (fail);go_upto_region 14 with fail;obtain ⟨Wd,Au⟩:=Haa ((Wc.alloc (.cells #[.int .i64 (i:Int),.pointer (some ⟨bp,0,none⟩),.slice am nm cm,.int .i64 0,.int .i64 0,.int .i64 0,.int .i64 0,.int .i64 0,.int .i64 0,.int .i64 0,.int .i64 0,.int .i64 0,.int .i64 0,.bool false,.pointer none] 173)).drew);have bH:Below wr.heap.size wr Wd:=by rw [<-Au.out];exact (fS.alloc fS.size _).drew
       have Xt:Below Wc.heap.size Wc Wd:=by rw [<-Au.out];exact (aA Wc _).drew
       have LX:Hid (Wd.heap[Wc.heap.size]?=some (.cells (zk i bp am nm cm default none) 173 (0,0))):=hd (by rw [<-Au.out];exact heap_drew (aae Wc _));rw [Au.out];obtain ⟨bq,oO⟩:=Haa Wc.heap.size;rw [oO.out]at LX⊢;clear Au rl xg d6 e0 e1;have pF:Hid (Wd.heap[gp]?=_):=hd ((Xt.block _ (aab.1 LW.out).1).trans LW.out);have sK:Hid (Below V.heap.size V Wd):=hd ((lZ.out _ _ _ _ _ _ _ _ _ vK.out).trans (bH.mono (lZ.out _ _ _ _ _ _ _ _ _ vK.out).size));obtain ⟨room,vY⟩:∃n:Nat,Hid (c.lane.toNat=n):=⟨_,rfl⟩;have A6:c.lane=(room:Int):=by have:=HO.out.cfg.l1;have:=vY.out;omega
       obtain ⟨⟨-,-,Zj,-⟩,-,-⟩:=HD.out Wd sK.out;rw [A6]at Zj;clear d3;have z0:=aaa Wd gp 0 _ _ _ pF.out;have z1:=aaa Wd gp 1 _ _ _ pF.out;have z2:=aaa Wd gp 2 _ _ _ pF.out;have z3:=aaa Wd gp 3 _ _ _ pF.out;have z4:=aaa Wd gp 4 _ _ _ pF.out;have z5:=aaa Wd gp 5 _ _ _ pF.out;have z6:=aaa Wd gp 6 _ _ _ pF.out;have z7:=aaa Wd gp 7 _ _ _ pF.out;have z8:=aaa Wd gp 8 _ _ _ pF.out;have z9:=aaa Wd gp 9 _ _ _ pF.out;have Lz:=aaa Wd gp 10 _ _ _ pF.out;have LA:=aaa Wd gp 11 _ _ _ pF.out;have z12:=aaa Wd gp 12 _ _ _ pF.out;have LC:=aaa Wd gp 13 _ _ _ pF.out;have LD:=aaa Wd gp 14 _ _ _ pF.out;have lY:t.x=aB m i:=by rw [<-ht.out];exact VE fP.out.nq Rx
       obtain ⟨N,Zk,Zl⟩:∃N:Ending->World->Prop,Hid (Calls prog 90 #[.pointer (some ⟨bq,0,none⟩),.int .i64 (room:Int),Ir t] Wd N)/\Hid (∀e w1,N e w1->e=.returned (.tuple #[])/\∃ar n cr a' c' w2,w1.cell? ⟨bp,1,none⟩=some (.slice ar n cr)/\(∀ty,(Builtin.append_ #[161,161] ty #[.slice ar n cr,.slice (some ⟨w1.heap.size,0,none⟩) 1 1]).run prog (w1.alloc (.cells #[.pointer (some ⟨bq,0,none⟩)] 168))=.ok (.slice a' (n+1) c') w2)/\(∃u,w2.cell? ⟨bp,1,none⟩=some u)/\w2.frozen? ⟨bp,1,none⟩=false/\
        Hid (∀w3,w2.setCell ⟨bp,1,none⟩ (.slice a' (n+1) c')=w3->w3.cell? ⟨M,11,none⟩=some (.slice aq i cq)/\∃a2 c2 w4,(∀ty,(Builtin.append_ #[161,161] ty #[.slice aq i cq,.slice (some ⟨w3.heap.size,0,none⟩) 1 1]).run prog (w3.alloc (.cells #[.pointer (some ⟨bq,0,none⟩)] 168))=.ok (.slice a2 (i+1) c2) w4)/\(∃u,w4.cell? ⟨M,11,none⟩=some u)/\w4.frozen? ⟨M,11,none⟩=false/\
         Hid (uH V c g (tq g) m j (i+1) (i+1) (i+1) (w4.setCell ⟨M,11,none⟩ (.slice a2 (i+1) c2)) (some ⟨ga,0,none⟩) cp a2 c2))):=by
        obtain ⟨hW,f1,f2,f3,f4⟩:=HL.out;have hI:=hW.i.below bH;have YV:=hW.c;obtain ⟨L,Zm,hwok⟩:=hI.cmp (.dU ip) yg (by simp);have Wn:kC (fT c i) m ip L:=by rw [<-YV];exact hwok
        obtain ⟨la,lc,q1,-,-,-,-,-,q7,-,-⟩:=hI.cmp (.part ip) yg (by simp);have q1':Wd.heap[bp]?=some (.cells (rH (l.tr i) ip (aM m ip) la lc) 178 (0,0)):=by rw [<-zn.out];exact q1
        have hbpl:V.heap.size<=bp/\bp<wr.heap.size:=by rw [<-zn.out];exact hW.i.ge (.part ip) yg _ q7
        have hbql:wr.heap.size<=bq:=by rw [<-oO.out];exact fS.size
        have kU:=(aab.1 LX.out).1;have qQ:∀k,Fs (.dU ip) k->V.heap.size<=k/\k<wr.heap.size:=hW.i.ge (.dU ip) yg;have Ry:V.heap.size<=Wd.heap.size:=sK.out.size;have Cy:=HO.out.cfg.k_;have ky:=HO.out.tg.ln i bP;have htm:=HO.out.tg.vG i bP;have jN:=HO.out.tick;have lT:=HO.out.cfg.l1;have hl64:=HO.out.cfg.YX;have hn8:=HO.out.cfg.n8;have j9:=vY.out;have Rz:Be w room t:=by rw [<-ht.out,<-vY.out];exact fP.out.qq i Rx
        have hsl:t.ls.length=t.x.ss.length:=by rw [<-Rz.ss];simp
        have hsl2:t.ls.length=c.labels.length+1:=by rw [hsl,lY];exact ky.2
        have Xu:aL.nj t.x.ss t.x.lc:=by rw [lY];exact ky.1
        have q_:∀u∈t.ls,aL.Good (u.ls room)/\∀x∈u.ws,jg c x.1:=fun u hu=>by
         have hm:u.ls room∈t.x.ss:=by rw [<-Rz.ss];exact abk hu
         refine ⟨Xu.each _ hm,fun x hx=> ?_⟩;rw [lY]at hm;exact HO.out.tg.qW i bP _ hm x hx
        have hcall:=NM i bp am nm cm bq (l.bw ip) room (Fs (.dU ip)) L t Wd (fun W hm=>by
         have aI:Below V.heap.size Wd W:=hm.below Ry (fun k _ hk=>by
          rcases hk with rfl|hk
          · omega
          · exact (qQ k hk).1)
         exact Rz.below (xF.out W (sK.out.trans aI))) LX.out (by rw [aaa _ _ _ _ _ _ q1'];rfl) Zm (by omega) (fun e=>by
          rw [<-zn.out]at e
          exact hW.i.ap (.dU ip) (.part ip) yg yg (by simp) _ e q7) (fun e=>by have:=(qQ _ e).2;omega) (wok_len32 Wn Zm.good (by simp only [fT,List.length_take];omega)) (by omega) (by rw [lY];omega) (by rw [lY];omega) (by omega) (by omega) (by omega) (by omega) (by rw [hsl];exact Xu.cu)
         (fun u hu=>⟨by
           have uk:=(q_ u hu).1.may.2.2.1
           have:=BP 32 (u.ws.map (·.1)) uk (fun x hx=>by
            obtain ⟨y,hy,rfl⟩:=abm.1 hx;obtain ⟨g1,g2⟩:=(q_ u hu).2 y hy
            omega)
           rw [aa3]at this;omega,fun x hx=>by
           obtain ⟨g1,g2⟩:=(q_ u hu).2 x hx
           exact ⟨by omega,by omega⟩⟩)
         (fun u hu=>(q_ u hu).1.may)
        refine ⟨_,hd hcall,hd ?_⟩;rintro e w1 ⟨rfl,bo,FP,iX,hA⟩;refine ⟨rfl, ?_⟩;rw [lY]at hA;obtain ⟨m1,m2,m3⟩:=HM.out;rw [<-m1,<-m2,<-m3]at hA;obtain ⟨ar,n,cr,a',c',w2,k1,k2,k3,k4,k5⟩:=hW.lay bP Cy Iy.out yg Zi.out zn.out Dm.out bH hbql kU Wn hA;refine ⟨ar,n,cr,a',c',w2,k1,k2,k3,k4,hd (fun w3 e3=> ?_)⟩;obtain ⟨j1,a2,c2,w4,j2,j3,j4,j5⟩:=k5 w3 e3;rw [f3,f4]at j1 j2;rw [f1,f2]at j5;exact ⟨j1,a2,c2,w4,j2,j3,j4,hd j5⟩
       have aJ:=Zk.out;unfold Ir lz at aJ;clear Zk LW pF LX HE HL vK bH Xt fS lY A6 HM;go_upto_region 15 with(go_at_call 90;(with_reducible refine aJ.mono ?_);rintro e w1 he;obtain ⟨rfl,ar,n,cr,a',c',w2,y0,y2,⟨yu,y3⟩,y4,HY⟩:=Zl.out e w1 he;replace y2:=hd y2;clear he);clear aJ Zl Zj z0 z1 z2 z3 z4 z5 z6 z7 z8 z9 Lz LA z12 LC LD;go_upto_region 16 with(refine dZ (by rfl) _ _ _ (by rfl) _ _ _ _ (by rfl) (by rfl) y2.out ?_;clear y2);obtain ⟨w3,iH⟩:=Haa (w2.setCell ⟨bp,1,none⟩ (.slice a' (n+1) c'));obtain ⟨x11,a2,c2,w4,g2,⟨gu,g3⟩,g4,HZ⟩:=HY.out w3 iH.out;rw [iH.out];replace g2:=hd g2;clear HY iH y0 y3 y4;go_wp2_with (refine dZ (by rfl) _ _ _ (by rfl) _ _ _ _ (by rfl) (by rfl) g2.out ?_;clear g2);go_roundg (gk-1)
       case rel=>exact ⟨i+1,by go_num,by omega,hd ⟨a2,c2,HZ.out⟩⟩
       case measure=>omega
     · obtain rfl:i=nq:=by omega
       have mg:Hid (Q (.returned (.pointer (some ⟨M,0,none⟩))) wr):=hd (by
        rw [<-hQ.out];obtain ⟨l,Fs,hW,-⟩:=hX;obtain ⟨hI,h1,h2,h3,h4⟩:=hW;have aj:=xF.out wr hI.au;have Zn:=HKL.out;have hb:CB wr l:=by
         refine ⟨?_,bR.mod uU.out (Mod.aS (fun _=>False) aj) (fun h=>h),eQ.mod HLM.out (Mod.aS (fun _=>False) aj) (fun h=>h),fun k hk=> ?_, ?_, ?_,fun k hk=> ?_⟩
         · rw [h1,h2];exact HR.out.below aj
         · rw [h3];rw [h2]at hk;exact .inl hk
         · rw [h3];exact .inr (.inl rfl)
         · rw [h3];exact .inr (.inr rfl)
         · rw [h3]at hk;have:=Zn k hk;have:=aj.size;omega
        have hI':iY V l m l.c.labels.length l.c.procs.length l.c.procs.length l.c.procs.length wr Fs:=by
         rw [h1,dI.out,dV.out];exact hI
        have Ry:=Dm.out;have hVw:w.heap.size<=V.heap.size:=by have:=hB.out;have:=dM.out;have:=hM.out;omega
        obtain ⟨U,A7,hU⟩:=hI'.whole hb (fun k hk=>by
         rw [h3]at hk;have:=Zn k hk
         omega)
        exact ⟨l,U,by rw [h4,Ry],A7,h1,h2,h3,fun k hk=>aai hVw (hU k hk),aj⟩)
       clear hX;go_wp2_with fail;exact mg.out
end Go.Proofs.YthopnfbjiifhhaaGreatDoor
