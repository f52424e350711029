/- Rows of the call's own, each at a block of its own; configs as values. -/
import Derived.Test.YthopnfbjiifhhaaGreatDoorGQy
set_option maxHeartbeats 4000000
set_option maxRecDepth 100000
namespace Go.Proofs.YthopnfbjiifhhaaGreatDoor
open Go.RowKit Go.Proofs.Tryz
structure gV where
 e:Nat
 size:Nat
 a:Option Addr
 n:Nat
 c:Nat
 xs:List Value
def gV.ok(W:World)(d:gV):Prop:=Row W d.e d.size d.a d.n d.c d.xs
def Vn(d d':gV):Prop:=∀k,ae d.a=some k->ae d'.a≠some k
structure bT(B:Nat)(W:World)(ds:List gV):Prop where
 ok:∀d∈ds,d.ok W
 new:∀d∈ds,∀k,ae d.a=some k->B<=k
 apart:ds.Pairwise Vn
theorem bT.nil(B:Nat)(W:World):bT B W []:=⟨fun _ h=>(by cases h),fun _ h=>(by cases h),List.Pairwise.nil⟩
variable{B:Nat}{W W':World}{g:Loc}{α β:Type}
theorem bT.mod{ds:List gV}{S:Nat->Prop}(h:bT B W ds)(hm:Mod S W W')(hs:∀d∈ds,∀k,ae d.a=some k->¬S k):bT B W' ds:=
 ⟨fun d hd=>(h.ok d hd).mod hm (hs d hd),h.new,h.apart⟩
theorem bT.below{ds:List gV}(h:bT B W ds)(hb:Below W.heap.size W W'):bT B W' ds:=⟨fun d hd=>(h.ok d hd).below hb,h.new,h.apart⟩
theorem bT.lt{ds:List gV}(h:bT B W ds):∀d∈ds,∀k,ae d.a=some k->k<W.heap.size:=fun d hd k hk=>(h.ok d hd).lt k hk
theorem bT.cons{ds:List gV}(h:bT B W ds){d:gV}(hd:d.ok W)(hn:∀k,ae d.a=some k->B<=k)(ha:∀d'∈ds,Vn d d'):bT B W (d::ds):=
 ⟨fun d' qT=>by
  rcases aa0.1 qT with rfl|h'
  ·exact hd
  ·exact h.ok d' h',fun d' qT=>by
  rcases aa0.1 qT with rfl|h'
  ·exact hn
  ·exact h.new d' h',List.Pairwise.cons ha h.apart⟩
theorem bT.perm{ds XN:List gV}(h:bT B W ds)(hp:ds.Perm XN):bT B W XN:=
 ⟨fun d hd=>h.ok d (hp.mem_iff.2 hd),fun d hd=>h.new d (hp.mem_iff.2 hd),hp.pairwise h.apart (fun ml k hk e=>ml k e hk)⟩
theorem bT.mono{B':Nat}{ds:List gV}(h:bT B W ds)(hB:B'<=B):bT B' W ds:=⟨h.ok,fun d hd k hk=>aai hB (h.new d hd k hk),h.apart⟩
theorem bT.head{d:gV}{ds:List gV}(h:bT B W (d::ds)):Row W d.e d.size d.a d.n d.c d.xs:=h.ok d aaA
theorem bT.tail{d:gV}{ds:List gV}(h:bT B W (d::ds)):bT B W ds:=
 ⟨fun d' hd=>h.ok d' (aaw _ hd),fun d' hd=>h.new d' (aaw _ hd),(List.pairwise_cons.1 h.apart).2⟩
theorem bT.turn{d d':gV}{ds:List gV}(h:bT B W (d::ds))(hB:B<=W.heap.size)(hm:Mod (fun k=>ae d.a=some k) W W')(hd:d'.ok W')(hn:∀k,ae d'.a=some k->ae d.a=some k\/W.heap.size<=k):bT B W' (d'::ds):=by
 have aO:=(List.pairwise_cons.1 h.apart).1;refine bT.cons (h.tail.mod hm (fun x hx k hk jk=>aO x hx k jk hk)) hd (fun k hk=> ?_) (fun x hx k hk jk=> ?_)
 ·rcases hn k hk with h1|h1
  ·exact h.new d aaA k h1
  ·omega
 ·rcases hn k hk with h1|h1
  ·exact aO x hx k h1 jk
  ·have:=h.tail.lt x hx k jk;omega
def iC(l:List Int):List Value:=l.map (.int .i64 ·)
theorem oo(l:List Int):(iC l).length=l.length*1:=by simp [iC]
theorem rW(l:List Int)(i:Nat)(h:i<l.length):(iC l)[i]?=some (.int .i64 (l.getD i 0)):=by simp [iC,List.getD_eq_getElem?_getD,List.getElem?_eq_getElem h]
theorem tH(l:List Int):∀u∈iC l,u.oneCell'=true:=by
 intro u hu;obtain ⟨x,_,rfl⟩:=List.mem_map.mp hu;rfl
theorem xR(l m:List Int):iC l++iC m=iC (l++m):=by simp [iC]
theorem natC_iC(l:List Nat):wD l=iC (l.map fun x:Nat=>(x:Int)):=by simp [wD,iC]
structure jl where
 p:Pr
 a:Option Addr
 c:Nat
instance:Inhabited jl:=⟨⟨default,none,0⟩⟩
def dD(ms:List jl):List Pr:=ms.map jl.p
theorem mY(ms:List jl):(dD ms).length=ms.length:=by simp [dD]
theorem psOf_snoc(ms:List jl)(m:jl):dD (ms++[m])=dD ms++[m.p]:=by simp [dD]
def dS(m:jl):List Value:=[.int .i64 m.p.part,.slice m.a m.p.code.length m.c]
def jw(ms:List jl):List Value:=ms.flatMap dS
theorem psC_len(ms:List jl):(jw ms).length=ms.length*2:=by
 induction ms with
 |nil=>rfl
 |cons x r ih=>simp only [jw,List.flatMap_cons,List.length_append,List.length_cons]at*;rw [ih,show(dS x).length=2 from rfl];omega
theorem UJ(m:jl):∀u∈dS m,u.oneCell'=true:=by
 intro u hu;simp only [dS,List.mem_cons,List.not_mem_nil,or_false]at hu;rcases hu with rfl|rfl<;>rfl
theorem oy:∀(ms:List jl) (i:Nat),i<ms.length->(jw ms)[i*2]?=some (.int .i64 (ms.getD i default).p.part)/\(jw ms)[i*2+1]?=some (.slice (ms.getD i default).a (ms.getD i default).p.code.length (ms.getD i default).c)
 |[],i,h=>absurd h (aao i)
 |t::ts,0,_=>⟨rfl,rfl⟩
 |t::ts,i+1,h=>by
  have ih:=oy ts i (by simpa using h);simp only [jw,List.flatMap_cons,List.getD_cons_succ]at*
  rw [aan (by rw [show(dS t).length=2 from rfl];omega),aan (by rw [show(dS t).length=2 from rfl];omega),show(dS t).length=2 from rfl,show(i+1)*2-2=i*2 by omega,show(i+1)*2+1-2=i*2+1 by omega];exact ih
def sy(m:jl):gV:=⟨35,5,m.a,m.p.code.length,m.c,jK m.p.code⟩
structure Loc where
 la:Option Addr
 lc:Nat
 ta:Option Addr
 tc:Nat
 pa:Option Addr
 pc:Nat
 ms:List jl
def a_(c:ak)(g:Loc):Array Value:=#[.slice g.la c.labels.length g.lc,.slice g.ta c.table.length g.tc,.int .i64 c.fuel,.int .i64 c.lane,.int .i64 c.aF,.int .i64 c.log,.slice g.pa c.procs.length g.pc]
def ct(c:ak)(g:Loc):Value:=.agg (a_ c g)
def qU:Loc:=⟨none,0,none,0,none,0,[]⟩
def lP(c:ak)(g:Loc):List gV:=⟨28,1,g.la,c.labels.length,g.lc,fJ c.labels⟩::⟨3,1,g.ta,c.table.length,g.tc,iC c.table⟩::⟨38,2,g.pa,c.procs.length,g.pc,jw g.ms⟩::g.ms.map sy
structure kS(B:Nat)(W:World)(c:ak)(g:Loc):Prop where
 own:bT B W (lP c g)
 ps:dD g.ms=c.procs
structure fD(W:World)(c:ak)(g:Loc):Prop where
 pY:Rd W g.la (fJ c.labels)
 qh:Rd W g.ta (iC c.table)
 oN:Rd W g.pa (jw g.ms)
 yx:∀m∈g.ms,Rd W m.a (jK m.p.code)
 ps:dD g.ms=c.procs
theorem kS.rd{c:ak}(h:kS B W c g):fD W c g where
 pY:=(h.own.ok _ aaA).rd
 qh:=(h.own.ok _ (aaw _ aaA)).rd
 oN:=(h.own.ok _ (aaw _ (aaw _ aaA))).rd
 yx:=fun m hm=>(h.own.ok (sy m) (aaw _ (aaw _ (aaw _ (abk hm))))).rd
 ps:=h.ps
theorem Nd(e s:Nat):(⟨e,s,none,0,0,[]⟩:gV).ok W:=Row.nil
theorem kS.none(B:Nat)(W:World):kS B W nN qU:=
 ⟨(((bT.nil B W).cons (Nd 38 2) (fun k hk=>by cases hk) (fun d hd=>by cases hd)).cons (Nd 3 1) (fun k hk=>by cases hk) (fun d _ k hk=>by cases hk)).cons (Nd 28 1) (fun k hk=>by cases hk) (fun d _ k hk=>by cases hk),rfl⟩
theorem fD.below{c:ak}(h:fD W c g)(hb:Below W.heap.size W W'):fD W' c g:=⟨h.pY.below hb,h.qh.below hb,h.oN.below hb,fun m hm=>(h.yx m hm).below hb,h.ps⟩
theorem kS.below{c:ak}(h:kS B W c g)(hb:Below W.heap.size W W'):kS B W' c g:=⟨h.own.below hb,h.ps⟩
theorem fD.len{c:ak}(h:fD W c g):g.ms.length=c.procs.length:=by rw [<-h.ps,mY]
theorem fD.at{c:ak}(h:fD W c g)(i:Nat):(g.ms.getD i default).p=c.procs.getD i default:=by
 rw [<-h.ps];simp only [dD,List.getD_eq_getElem?_getD,List.getElem?_map]
 cases g.ms[i]?<;>rfl
theorem bind_assoc{γ:Type}(x:fO α)(f:α->fO β)(g:β->fO γ):bQ (bQ x f) g=bQ x (fun a=>bQ (f a) g):=by
 funext bs p;unfold bQ
 cases x bs p<;>rfl
theorem cL.sub{whole:sx α}{s s':St}{bs:List Nat}{X:fO β}{k:β->fO α}{l:β}(h:cL whole s (bQ X k bs s.nx))(h0:s.e=0)(h1:cL (X bs s.nx) s' (vZ l bs s'.nx)):cL whole s' (k l bs s'.nx):=by
 obtain ⟨hw,ha⟩:=h.good h0;unfold bQ at hw;rcases h1 with⟨e1,e2,e3⟩|⟨e1,e2⟩
 ·rw [e3]at hw;exact .inl ⟨e1,e2,hw⟩
 ·rw [e2]at hw;exact .inr ⟨e1,hw⟩
def fin:ak->fO ak:=fun c bs p=>if p<bs.length then .er 6 p else .ok c p
def jb(bs:List Nat):sx ak:=bQ O5 fin bs 0
theorem whole_eq(bs:List Nat):jb bs=bQ KL (fun _=>bQ P2 fin) bs 0:=by
 unfold jb;rw [cfgP_eq,bind_assoc]
section
variable{w:World} {r:Nat} {a:Option Addr} {cap:Nat} {bs:List Nat} {s:St}
theorem rest_any(h:dW w r a cap bs s):
 Calls prog 87 #[.pointer (some ⟨r,0,none⟩)] w fun e w'=>e=.returned (.tuple #[])/\aN w r a cap bs (eB s (if s.nx<bs.length then 6 else 0) s.nx) w':=by
 have k0:=h.cells.1;have k2:=h.cells.2.2.1;have H:=hd h;have hf:Hid (∀n,Calls prog 112 #[.pointer (some ⟨r,0,none⟩),.int .i64 6,.int .i64 s.nx] (w.drewN n) fun e w'=>e=.returned (.tuple #[])/\aN w r a cap bs (eB s 6 s.nx) w'):=hd fun n=>
  (tC (h.below (ck w n)) 6 s.nx).mono fun e w' ⟨he,ho⟩=>⟨he,ho.1,(Mod.aS _ (ck w n)).trans ho.2 (fun _ h=> .inl h)⟩
 clear h;by_cases h1:s.nx<bs.length
 ·rw [aah h1];have jY:(s.nx:Int)<(bs.length:Int):=by omega
  go_enter func87,ntmps87;go_upto_region 0 with fail;go_quiet (fail)
  have k2':(w.drewN nq).cell? ⟨r,2,none⟩=some (.int .i64 s.nx):=k2;go_wp2_with (go_at_call 112;refine (hf.out nq).mono ?_;rintro e w1 ⟨rfl,ho⟩);refine bodyPost_end (abA rfl _ _ _) rfl ?_;exact ⟨rfl,ho⟩
 ·rw [aaf h1];have jY:decide ((s.nx:Int)<(bs.length:Int))=false:=by simp;omega
  have h1n:(bs.length:Int)<=(s.nx:Int):=by omega
  go_enter func87,ntmps87;go_upto_region 0 with fail;go_quiet (fail)
  go_wp2_with fail;refine bodyPost_end (abA rfl _ _ _) rfl ?_;rw [tD];exact ⟨rfl,(aN.refl H.out).after (ck w nq)⟩
end
structure jm(w:World)(r:Nat)(a:Option Addr)(cap:Nat)(bs:List Nat)(s:St)(W:World)(G0 G1:Nat)(xs:Array Value):Prop where
 out:aN w r a cap bs s W
 b0:W.heap[G0]?=some (.cells #[.slice none 0 0,.slice none 0 0,.int .i64 0,.int .i64 0,.int .i64 0,.int .i64 0,.slice none 0 0] 26 (0,0))
 b1:W.heap[G1]?=some (.cells xs 26 (0,0))
 n0:w.heap.size<=G0
 n1:G0<G1
section
variable{w W W':World} {r:Nat} {a:Option Addr} {cap:Nat} {bs:List Nat} {s s' s0:St} {G0 G1:Nat} {xs:Array Value}
theorem jm.step(h:jm w r a cap bs s W G0 G1 xs)(h0:dW w r a cap bs s0)(o:aN W r a cap bs s' W'):jm w r a cap bs s' W' G0 G1 xs:=by
 have hr:=h0.lt;have:=h.n0;have:=h.n1;exact ⟨h.out.trans o,by rw [o.2.block G0 (aab.1 h.b0).1 (by omega)];exact h.b0,by rw [o.2.block G1 (aab.1 h.b1).1 (by omega)];exact h.b1,h.n0,h.n1⟩
theorem jm.below(h:jm w r a cap bs s W G0 G1 xs)(hb:Below W.heap.size W W'):jm w r a cap bs s W' G0 G1 xs:=
 ⟨h.out.after hb,by rw [hb.block G0 (aab.1 h.b0).1];exact h.b0,by rw [hb.block G1 (aab.1 h.b1).1];exact h.b1,h.n0,h.n1⟩
theorem jm.put(h:jm w r a cap bs s W G0 G1 xs)(h0:dW w r a cap bs s0)(i:Nat)(v:Value):jm w r a cap bs s (W.setCell ⟨G1,i,none⟩ v) G0 G1 (xs.setIfInBounds i v):=by
 have:=h.n0;have:=h.n1;exact ⟨h.out.put h0 (by omega) i v,by rw [aay _ _ _ _ (by simp only;omega)];exact h.b0,aax W G1 i _ _ v h.b1,h.n0,h.n1⟩
theorem jm.cell(h:jm w r a cap bs s W G0 G1 xs)(i:Nat):W.cell? ⟨G1,i,none⟩=xs[i]?:=aaa _ _ _ _ _ _ h.b1
theorem jm.free(h:jm w r a cap bs s W G0 G1 xs)(i:Nat):W.frozen? ⟨G1,i,none⟩=false:=by simp [World.frozen?,h.b1]
theorem jm.Oz(h:jm w r a cap bs s W G0 G1 xs)(i:Nat):W.frozen? ⟨G0,i,none⟩=false:=by simp [World.frozen?,h.b0]
theorem jm.cell0(h:jm w r a cap bs s W G0 G1 xs)(i:Nat):W.cell? ⟨G0,i,none⟩=(#[.slice none 0 0,.slice none 0 0,.int .i64 0,.int .i64 0,.int .i64 0,.int .i64 0,.slice none 0 0]:Array Value)[i]?:=aaa _ _ _ _ _ _ h.b0
end
section
variable{w W W':World} {r:Nat} {a:Option Addr} {cap:Nat} {bs:List Nat} {s s' s0:St} {B:Nat} {ds:List gV}
theorem bT.step(h:bT B W ds)(o:aN W r a cap bs s' W')(hr:r<B):bT B W' ds:=h.mod o.2 (fun d hd k hk e=>by have:=h.new d hd k hk;omega)
theorem bT.put(h:bT B W ds){G:Nat}(hG:G<B)(i:Nat)(v:Value):bT B (W.setCell ⟨G,i,none⟩ v) ds:=
 h.mod (S:=fun k=>k=G) ((Mod.refl (fun k=>k=G) W).setCell (.inl rfl) v) (fun d hd k hk e=>by have:=h.new d hd k hk;omega)
theorem bT.add{e size n c1:Nat}{a1:Option Addr}{xs:List Value}(h:bT B W ds)(hr:r<B)(hB:B<=W.heap.size)(m:lN W r a cap bs s' W' e size a1 n c1 xs):bT B W' (⟨e,size,a1,n,c1,xs⟩::ds):=by
 refine (h.step m.out hr).cons m.row (fun k hk=>aai hB (m.new k hk)) (fun d hd k hk e=> ?_);have h1:=m.new k hk;have h2:=h.lt d hd k e;omega
end
variable{s s0:St}{bs L T:List Nat}{W W' w:World}{G B f g h i lc tc uj r cap G0 n G1:Nat}{la ta qV a:Option Addr}{xs:Array Value}
theorem chk4{whole:sx ak}(h:cL whole s (bQ (P4 L T) fin bs s.nx)):
 cL whole (bD bs s 4) (bQ (P8 L T (mi bs s 0) (mi bs s 1) (mi bs s 2) (mi bs s 3)) fin bs (bD bs s 4).nx):=by
 have h1:cL whole s (bQ (il 2 (D8 0)) (fun f=>bQ (P5 L T f) fin) bs s.nx):=by rw [<-bind_assoc];exact h
 have h2:=cL.uh h1;have h3:cL whole (bD bs s 1) (bQ (il 1 (D8 1)) (fun g=>bQ (P6 L T (mi bs s 0) g) fin) bs (bD bs s 1).nx):=by rw [<-bind_assoc];exact h2
 have h4:=cL.uh h3;have h5:cL whole (bD bs s 2) (bQ (il 1 (D8 2)) (fun k=>bQ (P7 L T (mi bs s 0) (mi bs s 1) k) fin) bs (bD bs s 2).nx):=by rw [<-bind_assoc];exact h4
 have h6:=cL.uh h5;have h7:cL whole (bD bs s 3) (bQ (il 2 (D8 3)) (fun i=>bQ (P8 L T (mi bs s 0) (mi bs s 1) (mi bs s 2) i) fin) bs (bD bs s 3).nx):=by rw [<-bind_assoc];exact h6
 exact cL.uh h7
def jf(L T:List Nat)(f g h i:Nat)(ps:List Pr):fO ak:=fin (iR L T f g h i ps)
theorem p8_eq(L T:List Nat)(f g h i:Nat):bQ (P8 L T f g h i) fin=bQ (il 1 fun n=>dQ 32 n) (fun n=>bQ (iQ (fun _=>wN L.length h) n []) (jf L T f g h i)):=by
 unfold P8 OZ;rw [bind_assoc,bind_assoc];rfl
theorem rep_eq(L T:List Nat)(f g h i m:Nat)(acc:List Pr):bQ (iQ (fun _=>wN L.length h) (m+1) acc) (jf L T f g h i)=bQ (il 1 fun n=>bf 0 ((L.length:Int)-1) n) (fun part=>bQ (GD h) (fun l=>bQ (iQ (fun _=>wN L.length h) m (acc++[⟨part,l⟩])) (jf L T f g h i))):=by
 rw [iQ,bind_assoc];unfold wN GX;rw [bind_assoc];congr 1;funext part;rw [bind_assoc];rfl
structure Af(w:World)(r:Nat)(a:Option Addr)(cap:Nat)(bs:List Nat)(G0:Nat)(L T:List Nat)(f g h i:Nat)(la:Option Addr)(lc:Nat)(ta:Option Addr)(tc n:Nat)(wr:World)(ms:List jl)(pa:Option Addr)(pc:Nat)(s:St):Prop where
 cb:jm w r a cap bs s wr G0 (G0+1) (a_ (iR L T f g h i (dD ms)) ⟨la,lc,ta,tc,pa,pc,ms⟩)
 own:bT (G0+2) wr (lP (iR L T f g h i (dD ms)) ⟨la,lc,ta,tc,pa,pc,ms⟩)
 st:cL (jb bs) s (bQ (iQ (fun _=>wN L.length h) (n-ms.length) (dD ms)) (jf L T f g h i) bs s.nx)
 ok:s.e=0
 sz:G0+2<=wr.heap.size
theorem Sw{x0 x1 x2 x3 x4 x5 x6 v0 v1 v2 v3 v4 v5 v6:Value}{T:TypeId}(h:W.heap[G]?=some (.cells #[x0,x1,x2,x3,x4,x5,x6] T (0,0))):
 (((((((W.setCell ⟨G,0,none⟩ v0).setCell ⟨G,1,none⟩ v1).setCell ⟨G,2,none⟩ v2).setCell ⟨G,3,none⟩ v3).setCell ⟨G,4,none⟩ v4).setCell ⟨G,5,none⟩ v5).setCell ⟨G,6,none⟩ v6).heap[G]?=some (.cells #[v0,v1,v2,v3,v4,v5,v6] T (0,0)):=by
 have h0:=aax W G 0 _ _ v0 h;simp only [List.setIfInBounds_toArray,List.set_cons_zero]at h0;have h1:=aax _ G 1 _ _ v1 h0;simp only [List.setIfInBounds_toArray,List.set_cons_zero,List.set_cons_succ]at h1;have h2:=aax _ G 2 _ _ v2 h1;simp only [List.setIfInBounds_toArray,List.set_cons_zero,List.set_cons_succ]at h2;have h3:=aax _ G 3 _ _ v3 h2;simp only [List.setIfInBounds_toArray,List.set_cons_zero,List.set_cons_succ]at h3;have h4:=aax _ G 4 _ _ v4 h3;simp only [List.setIfInBounds_toArray,List.set_cons_zero,List.set_cons_succ]at h4;have h5:=aax _ G 5 _ _ v5 h4;simp only [List.setIfInBounds_toArray,List.set_cons_zero,List.set_cons_succ]at h5;have h6:=aax _ G 6 _ _ v6 h5;simp only [List.setIfInBounds_toArray,List.set_cons_zero,List.set_cons_succ]at h6;exact h6
theorem cfD_more{ms:List jl}{pa:Option Addr}{pc:Nat}{m:jl}
 (ho:bT B W (sy m::lP (iR L T f g h i (dD ms)) ⟨la,lc,ta,tc,pa,pc,ms⟩))(hB:B<=W.heap.size)(hm:Mod (fun k=>ae pa=some k) W W')
 (hR:Row W' 38 2 qV (ms.length+1) uj (jw ms++dS m))(hn:∀k,ae qV=some k->ae pa=some k\/W.heap.size<=k):
 bT B W' (lP (iR L T f g h i (dD (ms++[m]))) ⟨la,lc,ta,tc,qV,uj,ms++[m]⟩):=by
 have h1:=ho.perm (List.perm_append_comm (l₁:=[sy m]) (l₂:=lP (iR L T f g h i (dD ms)) ⟨la,lc,ta,tc,pa,pc,ms⟩));unfold lP at h1;have h2:=h1.perm (List.perm_middle (l₁:=[_,_]));have h3:=h2.turn (d':=⟨38,2,qV,ms.length+1,uj,jw ms++dS m⟩) hB hm hR hn;have h4:=h3.perm (List.perm_middle (l₁:=[_,_])).symm;unfold lP;simpa [iR,jw,dD]using h4
theorem Af.start{wr:World}
 (hc:jm w r a cap bs s wr G0 (G0+1) #[.slice la L.length lc,.slice ta T.length tc,.int .i64 f,.int .i64 g,.int .i64 h,.int .i64 i,.slice none 0 0])
 (ho:bT (G0+2) wr [⟨28,1,la,L.length,lc,fJ L⟩,⟨3,1,ta,T.length,tc,wD T⟩])
 (hs:cL (jb bs) s (bQ (iQ (fun _=>wN L.length h) n []) (jf L T f g h i) bs s.nx))(h0:s.e=0)(hz:G0+2<=wr.heap.size):Af w r a cap bs G0 L T f g h i la lc ta tc n wr [] none 0 s where
 cb:=by simpa [a_,iR,dD]using hc
 own:=by
  have h1:=ho.cons (d:=⟨38,2,none,0,0,[]⟩) Row.nil (fun k hk=>by cases hk) (fun d _ k hk=>by cases hk)
  have h2:=h1.perm (List.perm_middle (l₁:=[_,_]) (l₂:=[])).symm;simpa [lP,iR,dD,jw,natC_iC]using h2
 st:=hs
 ok:=h0
 sz:=hz
theorem Af.more{ms:List jl}{pa:Option Addr}{pc:Nat}{m:jl}
 (h0:dW w r a cap bs s0)(hr:r<G0)
 (hc:jm w r a cap bs s W G0 (G0+1) (a_ (iR L T f g h i (dD ms)) ⟨la,lc,ta,tc,pa,pc,ms⟩))
 (ho:bT (G0+2) W (sy m::lP (iR L T f g h i (dD ms)) ⟨la,lc,ta,tc,pa,pc,ms⟩))(hz:G0+2<=W.heap.size)(hm:Mod (fun k=>ae pa=some k) W W')
 (hR:Row W' 38 2 qV (ms.length+1) uj (jw ms++dS m))(hn:∀k,ae qV=some k->ae pa=some k\/W.heap.size<=k)
 (hs:cL (jb bs) s (bQ (iQ (fun _=>wN L.length h) (n-(ms.length+1)) (dD ms++[m.p])) (jf L T f g h i) bs s.nx))(h1:s.e=0):
 (W'.cell? ⟨G0+1,6,none⟩=some (.slice pa ms.length pc)/\W'.frozen? ⟨G0+1,6,none⟩=false)/\Af w r a cap bs G0 L T f g h i la lc ta tc n (W'.setCell ⟨G0+1,6,none⟩ (.slice qV (ms.length+1) uj)) (ms++[m]) qV uj s:=by
 have nP:∀k,ae pa=some k->G0+2<=k:=fun k hk=>ho.new ⟨38,2,pa,(dD ms).length,pc,jw ms⟩ (by simp [lP,iR]) k hk
 have cO:Mod (fun k=>k=r\/G0+2<=k) W W':=hm.mono (fun k _ hk=> .inr (nP k hk));have c1:jm w r a cap bs s W' G0 (G0+1) (a_ (iR L T f g h i (dD ms)) ⟨la,lc,ta,tc,pa,pc,ms⟩):=by
  have o:=hc.out;have:=hc.n0;refine ⟨⟨⟨?_,Rd.apart h0.rd o.1.rd hm (fun k hk=>by have:=nP k hk;omega) rfl,o.1.ne,o.1.byte,o.1.le,o.1.room,o.1.nx,o.1.fr⟩,o.2.trans hm (fun k hk=> .inr (by have:=nP k hk;omega))⟩, ?_, ?_,hc.n0,hc.n1⟩
  ·rw [hm.block r o.1.lt (fun e=>by have:=nP r e;omega)];exact o.1.obj
  ·rw [hm.block G0 (by omega) (fun e=>by have:=nP G0 e;omega)];exact hc.b0
  ·rw [hm.block (G0+1) (by omega) (fun e=>by have:=nP (G0+1) e;omega)];exact hc.b1
 have hl:(iR L T f g h i (dD ms)).procs.length=ms.length:=mY ms;refine ⟨⟨?_,c1.free 6⟩, ?_, ?_, ?_,h1, ?_⟩
 ·rw [c1.cell 6];simp [a_,hl]
 ·have:=c1.put h0 6 (.slice qV (ms.length+1) uj);simpa [a_,iR,dD]using this
 ·exact (cfD_more ho hz hm hR hn).put (by omega) 6 _
 ·rw [psOf_snoc,show n-(ms++[m]).length=n-(ms.length+1) by simp];exact hs
 ·have h3:=hm.size;have h4:(W'.setCell ⟨G0+1,6,none⟩ (.slice qV (ms.length+1) uj)).heap.size=W'.heap.size:=by simp [World.setCell]
  omega
theorem jm.other(h:jm w r a cap bs s W G0 G1 xs)(h0:dW w r a cap bs s0)(hG:G1<G)(i:Nat)(v:Value):jm w r a cap bs s (W.setCell ⟨G,i,none⟩ v) G0 G1 xs:=by
 have:=h.n0;have:=h.n1;exact ⟨h.out.put h0 (by omega) i v,by rw [aay _ _ _ _ (by simp only;omega)];exact h.b0,by rw [aay _ _ _ _ (by simp only;omega)];exact h.b1,h.n0,h.n1⟩
theorem bT.other{ds:List gV}(h:bT B W ds)(hG:∀d∈ds,∀k,ae d.a=some k->k≠G)(i:Nat)(v:Value):bT B (W.setCell ⟨G,i,none⟩ v) ds:=
 h.mod (S:=fun k=>k=G) ((Mod.refl (fun k=>k=G) W).setCell (.inl rfl) v) hG
def wF(W:World)(G:Nat)(v0 v1 v2 v3 v4 v5 v6:Value):World:=((((((W.setCell ⟨G,0,none⟩ v0).setCell ⟨G,1,none⟩ v1).setCell ⟨G,2,none⟩ v2).setCell ⟨G,3,none⟩ v3).setCell ⟨G,4,none⟩ v4).setCell ⟨G,5,none⟩ v5).setCell ⟨G,6,none⟩ v6
theorem jm.ends(h:jm w r a cap bs s W G0 G1 xs)(h0:dW w r a cap bs s0)(v0 v1 v2 v3 v4 v5 v6:Value):
 aN w r a cap bs s (wF W G0 v0 v1 v2 v3 v4 v5 v6)/\(wF W G0 v0 v1 v2 v3 v4 v5 v6).heap[G0]?=some (.cells #[v0,v1,v2,v3,v4,v5,v6] 26 (0,0))/\∀B ds,G0<B->bT B W ds->bT B (wF W G0 v0 v1 v2 v3 v4 v5 v6) ds:=
 ⟨((((((h.out.put h0 h.n0 _ _).put h0 h.n0 _ _).put h0 h.n0 _ _).put h0 h.n0 _ _).put h0 h.n0 _ _).put h0 h.n0 _ _).put h0 h.n0 _ _,Sw h.b0,
  fun _ _ hB ho=>((((((ho.put hB _ _).put hB _ _).put hB _ _).put hB _ _).put hB _ _).put hB _ _).put hB _ _⟩
def JC(w:World)(r:Nat)(a:Option Addr)(cap:Nat)(bs:List Nat)(G0:Nat)(a':Act)(W:World):Prop:=
 (∃(u1 u4 u5 u6 u7 u8 u9 u10 u11 u12 u13 u14 u15 u16 u17 u18 u19 u20 u21 u22 u23 u24 u25 u26 u27 u28 u29 u30 u31 u32 u33 u34 u35 u36 u37 u38 u39 u40 u41 u42 u43 u44 u45 u46 u47 u48 u49 u50 u51 u52 u53 u54 u55 u56 u57 u58 u59 u60 u61 u62 u63 u64 u65 u66 u67 u68 u69 u70:Value),a'={tmps:=#[.pointer (some ⟨r,0,none⟩),u1,.pointer (some ⟨G0,0,none⟩),.pointer (some ⟨G0+1,0,none⟩),u4,u5,u6,u7,u8,u9,u10,u11,u12,u13,u14,u15,u16,u17,u18,u19,u20,u21,u22,u23,u24,u25,u26,u27,u28,u29,u30,u31,u32,u33,u34,u35,u36,u37,u38,u39,u40,u41,u42,u43,u44,u45,u46,u47,u48,u49,u50,u51,u52,u53,u54,u55,u56,u57,u58,u59,u60,u61,u62,u63,u64,u65,u66,u67,u68,u69,u70],defers:=[]})/\∃s' xs,s'.e≠0/\jb bs=.er s'.e s'.at_/\jm w r a cap bs s' W G0 (G0+1) xs
def CfgOut(w:World)(r:Nat)(a:Option Addr)(cap:Nat)(bs:List Nat)(e:Ending)(w':World):Prop:=
 ∃c g s',e=.returned (ct c g)/\aN w r a cap bs s' w'/\kS w.heap.size w' c g/\((s'.e=0/\s'.at_=0/\∃q,jb bs=.ok c q)\/(s'.e≠0/\c=nN/\g=qU/\jb bs=.er s'.e s'.at_))
def z7:Array Value:=#[.slice none 0 0,.slice none 0 0,.int .i64 0,.int .i64 0,.int .i64 0,.int .i64 0,.slice none 0 0]
section
variable{w:World} {r:Nat} {a:Option Addr} {cap:Nat} {bs:List Nat} {s:St}
theorem config_any(h:dW w r a cap bs s)(hF:bR w)(hL:eQ w)(hr:2<=r)(h0:s.e=0/\s.at_=0/\s.nx=0):
 Calls prog 60 #[.pointer (some ⟨r,0,none⟩)] w (CfgOut w r a cap bs):=by
 have H:=hd h;have HF:=hd hF;have XO:=hd hL
 have HS:Hid (cL (jb bs) s (bQ (iQ (fun acc=>il 1 (pZ acc)) 5 []) (fun _=>bQ P2 fin) bs s.nx)):=hd (.inl ⟨h0.1,h0.2.1,by
  rw [whole_eq,h0.2.2];unfold KL;rw [bind_assoc]
  rfl⟩)
 have HZ:=hd h0;obtain ⟨G0,CO⟩:=Haa w.heap.size;have PS:r<G0:=by rw [<-CO.out];exact h.lt
 clear h hF hL h0;go_enter func60,ntmps60;go_wp2_with fail;refine wp_scope_jumps 0 (JC w r a cap bs G0) (fun _ _=>0) rfl ?_ ?_
 ·go_upto_region 3 with fail;obtain ⟨w1,aR⟩:=Haa ((w.alloc (.cells #[.slice none 0 0,.slice none 0 0,.int .i64 0,.int .i64 0,.int .i64 0,.int .i64 0,.slice none 0 0] 26)).alloc (.cells #[.slice none 0 0,.slice none 0 0,.int .i64 0,.int .i64 0,.int .i64 0,.int .i64 0,.slice none 0 0] 26));rw [aR.out,CO.out];have aH:Below w.heap.size w w1:=by rw [<-aR.out];exact ((aak _ w).alloc (aag _) _).alloc (by simp) _
  have HC:Hid (jm w r a cap bs s w1 G0 (G0+1) #[.slice none 0 0,.slice none 0 0,.int .i64 0,.int .i64 0,.int .i64 0,.int .i64 0,.slice none 0 0]):=hd (by
   refine ⟨⟨H.out.below aH,Mod.aS _ aH⟩, ?_, ?_,aaB CO.out,by omega⟩
   ·rw [<-aR.out,<-CO.out,(aA _ _).block _ (by simp)];exact aae w _
   ·rw [<-aR.out,<-CO.out,show w.heap.size+1=(w.alloc (.cells #[.slice none 0 0,.slice none 0 0,.int .i64 0,.int .i64 0,.int .i64 0,.int .i64 0,.slice none 0 0] 26)).heap.size by simp]
    exact aae _ _)
  have hB:Hid (w1.heap.size=G0+2):=hd (by rw [<-aR.out,<-CO.out];simp);have XP:Hid (∀W s',aN w r a cap bs s' W->bR W/\eQ W):=hd (fun W s' o=>⟨HF.out.mod o.2 (by omega),XO.out.mod o.2 (by omega)⟩);clear aR aH HF XO;have hc:=head_any HC.out.out.1 ⟨HZ.out.1,HZ.out.2.1,HZ.out.2.2⟩;go_upto_region 4 with(go_at_call 79;refine hc.mono ?_;rintro e w2 ⟨rfl,s1,o1,acc,st1⟩);replace HC:=hd (HC.out.step H.out o1);have hN:Hid (Nat.le w1.heap.size w2.heap.size):=hd o1.2.size;rw [<-HZ.out.2.2]at st1;replace HS:=hd (cL.sub HS.out HZ.out.1 st1);clear hc o1 st1 HZ;by_cases hz:s1.e=0
  ·have hf:=i_ HC.out.out.1 false (by simp [hz]);replace hz:=hd hz;have hc:=labels_any HC.out.out.1 ⟨hz.out,(HS.out.good hz.out).2⟩;have x0:=HC.out.cell 0;have f0:=HC.out.free 0;simp at x0;go_upto_region 5 with(go_at_call 80;refine hf.mono ?_;rintro e wq ⟨rfl,eU⟩;obtain rfl:w2=wq:=eU.symm);clear hf;go_upto_region 6 with(go_at_call 81;refine hc.mono ?_;rintro e w3 ⟨la,lc,L,rfl,s2,mk,st,KP⟩;have y0:=(HC.out.step H.out mk.out).cell 0;have y1:=(HC.out.step H.out mk.out).free 0;simp at y0;replace mk:=hd mk);replace HS:=hd (cL.sub (show cL (jb bs) s1 (bQ Gy (fun L=>bQ (P3 L) fin) bs s1.nx) by rw [<-bind_assoc];exact HS.out) hz.out st);have HO:Hid (bT (G0+2) w3 [⟨28,1,la,L.length,lc,fJ L⟩]):=hd ((bT.nil (G0+2) w2).add (by omega) (by have h1:w1.heap.size<=w2.heap.size:=hN.out;have:=hB.out;omega) mk.out);have Az:Hid (G0+2<=w3.heap.size):=hd (by have h1:w1.heap.size<=w2.heap.size:=hN.out;have h2:=mk.out.out.2.size;have:=hB.out;omega);replace HC:=hd ((HC.out.step H.out mk.out.out).put H.out 0 (.slice la L.length lc));replace HO:=hd (HO.out.put (G:=G0+1) (by omega) 0 (.slice la L.length lc));clear hc x0 f0 y0 y1 mk st hz hN hB;obtain ⟨w4,wO⟩:=Haa (w3.setCell ⟨G0+1,0,none⟩ (.slice la L.length lc));replace Az:Hid (G0+2<=w4.heap.size):=hd (by rw [<-wO.out];simpa [World.setCell]using Az.out);rw [wO.out]at HC HO⊢;clear wO;simp only [List.setIfInBounds_toArray,List.set_cons_zero]at HC;by_cases hz:s2.e=0
   ·have hf:=i_ HC.out.out.1 false (by simp [hz]);replace hz:=hd hz;have hc:=table_any HC.out.out.1 ⟨hz.out,(HS.out.good hz.out).2⟩ L.length (by omega);have x0:=HC.out.cell 0;simp at x0;go_upto_region 7 with(go_at_call 80;refine hf.mono ?_;rintro e wq ⟨rfl,eU⟩;obtain rfl:w4=wq:=eU.symm);clear hf;go_upto_region 8 with(go_at_call 82;refine hc.mono ?_;rintro e w5 ⟨ta,tc,T,rfl,s3,mk,st,hTl⟩;have y0:=(HC.out.step H.out mk.out).cell 1;have y1:=(HC.out.step H.out mk.out).free 1;simp at y0;replace mk:=hd mk);replace HS:=hd (cL.sub (show cL (jb bs) s2 (bQ (Gz L.length) (fun T=>bQ (P4 L T) fin) bs s2.nx) by rw [<-bind_assoc];exact HS.out) hz.out st);replace HO:=hd ((HO.out.add (by omega) Az.out mk.out).perm (List.Perm.swap _ _ _));have KQ:Hid (G0+2<=w5.heap.size):=hd (aai Az.out mk.out.out.2.size);replace HC:=hd ((HC.out.step H.out mk.out.out).put H.out 1 (.slice ta T.length tc));replace HO:=hd (HO.out.put (G:=G0+1) (by omega) 1 (.slice ta T.length tc));clear hc x0 y0 y1 mk st hz Az;obtain ⟨w6,PV⟩:=Haa (w5.setCell ⟨G0+1,1,none⟩ (.slice ta T.length tc));replace KQ:Hid (G0+2<=w6.heap.size):=hd (by rw [<-PV.out];simpa [World.setCell]using KQ.out);rw [PV.out]at HC HO⊢;clear PV;simp only [List.setIfInBounds_toArray,List.set_cons_zero,List.set_cons_succ]at HC;by_cases hz:s3.e=0
    ·have hf:=i_ HC.out.out.1 false (by simp [hz]);replace hz:=hd hz;have hc:=numbers_any HC.out.out.1 (XP.out _ _ HC.out.out).2;replace HS:=hd (chk4 HS.out);generalize mi bs s3 0=n0 at*
     generalize mi bs s3 1=n1 at*
     generalize mi bs s3 2=n2 at*
     generalize mi bs s3 3=n3 at*
     generalize bD bs s3 4=s4 at*
     go_upto_region 9 with(go_at_call 80;refine hf.mono ?_;rintro e wq ⟨rfl,eU⟩;obtain rfl:w6=wq:=eU.symm);clear hf;go_upto_region 10 with(go_at_call 83;refine hc.mono ?_;rintro e w7 ⟨rfl,o7⟩;have y2:=(HC.out.step H.out o7).cell 2;have y3:=(HC.out.step H.out o7).cell 3;have y4:=(HC.out.step H.out o7).cell 4;have y5:=(HC.out.step H.out o7).cell 5;have fr:=(HC.out.step H.out o7).free;simp at y2 y3 y4 y5;replace o7:=hd o7);replace HO:=hd ((((HO.out.step o7.out (by omega)).put (G:=G0+1) (by omega) 2 (.int .i64 (n0:Int))).put (G:=G0+1) (by omega) 3 (.int .i64 (n1:Int))).put (G:=G0+1) (by omega) 4 (.int .i64 (n2:Int))|>.put (G:=G0+1) (by omega) 5 (.int .i64 (n3:Int)));replace HC:=hd (((((HC.out.step H.out o7.out).put H.out 2 (.int .i64 (n0:Int))).put H.out 3 (.int .i64 (n1:Int))).put H.out 4 (.int .i64 (n2:Int))).put H.out 5 (.int .i64 (n3:Int)));have KR:Hid (G0+2<=w7.heap.size):=hd (aai KQ.out o7.out.2.size);clear hc y2 y3 y4 y5 fr o7 hz KQ;obtain ⟨w8,PW⟩:=Haa ((((w7.setCell ⟨G0+1,2,none⟩ (.int .i64 (n0:Int))).setCell ⟨G0+1,3,none⟩ (.int .i64 (n1:Int))).setCell ⟨G0+1,4,none⟩ (.int .i64 (n2:Int))).setCell ⟨G0+1,5,none⟩ (.int .i64 (n3:Int)));replace KR:Hid (G0+2<=w8.heap.size):=hd (by rw [<-PW.out];simpa [World.setCell]using KR.out);rw [PW.out]at HC HO⊢;clear PW;simp only [List.setIfInBounds_toArray,List.set_cons_zero,List.set_cons_succ]at HC;by_cases hz:s4.e=0
     ·have hf:=i_ HC.out.out.1 false (by simp [hz]);replace hz:=hd hz;have hc:=MK HC.out.out.1 32;have VR:(cN bs 1 (fun n=>dQ 32 n) s4).1<=255:=Tt HC.out.out.1.byte;replace HS:=hd (cL.uh (show cL (jb bs) s4 (bQ (il 1 fun n=>dQ 32 n) (fun n=>bQ (iQ (fun _=>wN L.length n2) n []) (jf L T n0 n1 n2 n3)) bs s4.nx) by rw [<-p8_eq];exact HS.out));generalize (cN bs 1 (fun n=>dQ 32 n) s4).1=n at*
      generalize (cN bs 1 (fun n=>dQ 32 n) s4).2=s5 at*
      go_upto_region 11 with(go_at_call 80;refine hf.mono ?_;rintro e wq ⟨rfl,eU⟩;obtain rfl:w8=wq:=eU.symm);clear hf;go_upto_region 12 with(go_at_call 84;refine hc.mono ?_;rintro e w9 ⟨rfl,o9⟩;replace o9:=hd o9);replace HO:=hd (HO.out.step o9.out (by omega));replace HC:=hd (HC.out.step H.out o9.out);have PX:Hid (G0+2<=w9.heap.size):=hd (aai KR.out o9.out.2.size);clear hc o9 hz KR;by_cases hz:s5.e=0
      ·have hf:=i_ HC.out.out.1 false (by simp [hz]);replace hz:=hd hz;have wU:Hid (Af w r a cap bs G0 L T n0 n1 n2 n3 la lc ta tc n w9 [] none 0 s5):=hd (Af.start HC.out HO.out HS.out hz.out PX.out);go_upto_block 0 with(go_at_call 80;refine hf.mono ?_;rintro e wq ⟨rfl,eU⟩;obtain rfl:w9=wq:=eU.symm);clear hf HC HS hz PX HO;go_wp2_with fail;go_loopg [5,41,42,43,44,45,46,47,48,49,50,51,52,53,54,55,56,57,58,59,60,61,62,63,64] n (fun gg _ v41 _ _ _ _ _ _ _ _ _ _ _ _ _ _ _ _ _ _ _ _ _ _ _ wr=>∃(ms:List jl) (len:Nat) (pa:Option Addr) (pc:Nat) (s':St),v41=.int .i64 (len:Int)/\len+gg=n/\Hid (ms.length=len)/\Hid (Af w r a cap bs G0 L T n0 n1 n2 n3 la lc ta tc n wr ms pa pc s'))
       case atStart=>exact ⟨[],0,none,0,s5,by go_num,by omega,hd rfl,wU⟩
       case round=>
        clear wU;obtain ⟨ms,len,pa,pc,s',rfl,hlen,HM,HL⟩:=hrel;by_cases h0:gk=0
        ·subst h0;obtain rfl:len=n:=by omega
         have hc:=rest_any HL.out.cb.out.1;by_cases hx:s'.nx<bs.length
         ·rw [aah hx,Jh HL.out.ok (by decide)]at hc
          have HJ:Hid (jb bs=.er 6 s'.nx):=hd (by
           have h1:=(HL.out.st.good HL.out.ok).1;rw [show len-ms.length=0 by have:=HM.out;omega]at h1;rw [h1];show(if s'.nx<bs.length then _ else _)=_
           rw [aah hx])
          have af:(len:Int)<=(len:Int):=by omega
          go_wp2_with (go_at_call 87;refine hc.mono ?_;rintro e G5 ⟨rfl,Et⟩);go_step3;have HC:=hd (HL.out.cb.step H.out Et);have hf:=i_ HC.out.out.1 true (by simp);clear hc Et;have a0:=HC.out.cell0 0;have a1:=HC.out.cell0 1;have a2:=HC.out.cell0 2;have a3:=HC.out.cell0 3;have a4:=HC.out.cell0 4;have a5:=HC.out.cell0 5;have a6:=HC.out.cell0 6;have fz:=HC.out.Oz;simp at a0 a1 a2 a3 a4 a5 a6;clear HL;go_wp2_with (go_at_call 80;refine hf.mono ?_;rintro e wq ⟨rfl,eU⟩;obtain rfl:G5=wq:=eU.symm);simp only [Exit.jump];obtain ⟨e1,e2,e3⟩:=HC.out.ends H.out (.slice none 0 0) (.slice none 0 0) (.int .i64 0) (.int .i64 0) (.int .i64 0) (.int .i64 0) (.slice none 0 0);unfold wF at e1 e2 e3;generalize ((((((G5.setCell ⟨G0,0,none⟩ (.slice none 0 0)).setCell ⟨G0,1,none⟩ (.slice none 0 0)).setCell ⟨G0,2,none⟩ (.int .i64 0)).setCell ⟨G0,3,none⟩ (.int .i64 0)).setCell ⟨G0,4,none⟩ (.int .i64 0)).setCell ⟨G0,5,none⟩ (.int .i64 0)).setCell ⟨G0,6,none⟩ (.slice none 0 0)=WZ at*
          have d0:=aaa WZ G0 0 _ _ _ e2;have d1:=aaa WZ G0 1 _ _ _ e2;have d2:=aaa WZ G0 2 _ _ _ e2;have d3:=aaa WZ G0 3 _ _ _ e2;have d4:=aaa WZ G0 4 _ _ _ e2;have d5:=aaa WZ G0 5 _ _ _ e2;have d6:=aaa WZ G0 6 _ _ _ e2;simp at d0 d1 d2 d3 d4 d5 d6;refine aar (v:=ct (nN) qU) ?_ rfl ⟨nN,qU,_,rfl,e1,kS.none _ _,.inr ⟨by simp,rfl,rfl,HJ.out⟩⟩;simp [results,results60,go_sem,ct,a_,nN,qU,d0,d1,d2,d3,d4,d5,d6]
         ·rw [aaf hx,tD]at hc
          have HJ:Hid (∃q,jb bs=.ok (iR L T n0 n1 n2 n3 (dD ms)) q):=hd ⟨s'.nx,by
           have h1:=(HL.out.st.good HL.out.ok).1;rw [show len-ms.length=0 by have:=HM.out;omega]at h1;rw [h1];show(if s'.nx<bs.length then _ else _)=_
           rw [aaf hx]⟩
          have AA:=hd (show s'.e=0/\s'.at_=0 from⟨HL.out.ok,(HL.out.st.good HL.out.ok).2⟩);go_wp2_with (go_at_call 87;refine hc.mono ?_;rintro e G5 ⟨rfl,Et⟩);go_step3;have HC:=hd (HL.out.cb.step H.out Et);have HO:=hd (HL.out.own.step Et (by omega));have hf:=i_ HC.out.out.1 false (by simp [AA.out.1]);clear hc Et;have c0:=HC.out.cell 0;have c1:=HC.out.cell 1;have c2:=HC.out.cell 2;have c3:=HC.out.cell 3;have c4:=HC.out.cell 4;have c5:=HC.out.cell 5;have c6:=HC.out.cell 6;simp [a_,iR,mY]at c0 c1 c2 c3 c4 c5 c6;have a0:=HC.out.cell0 0;have a1:=HC.out.cell0 1;have a2:=HC.out.cell0 2;have a3:=HC.out.cell0 3;have a4:=HC.out.cell0 4;have a5:=HC.out.cell0 5;have a6:=HC.out.cell0 6;have fz:=HC.out.Oz;simp at a0 a1 a2 a3 a4 a5 a6;clear HL;go_wp2_with (go_at_call 80;refine hf.mono ?_;rintro e wq ⟨rfl,eU⟩;obtain rfl:G5=wq:=eU.symm);simp only [Exit.jump];obtain ⟨e1,e2,e3⟩:=HC.out.ends H.out (.slice la L.length lc) (.slice ta T.length tc) (.int .i64 (n0:Int)) (.int .i64 (n1:Int)) (.int .i64 (n2:Int)) (.int .i64 (n3:Int)) (.slice pa ms.length pc);unfold wF at e1 e2 e3;generalize ((((((G5.setCell ⟨G0,0,none⟩ (.slice la L.length lc)).setCell ⟨G0,1,none⟩ (.slice ta T.length tc)).setCell ⟨G0,2,none⟩ (.int .i64 (n0:Int))).setCell ⟨G0,3,none⟩ (.int .i64 (n1:Int))).setCell ⟨G0,4,none⟩ (.int .i64 (n2:Int))).setCell ⟨G0,5,none⟩ (.int .i64 (n3:Int))).setCell ⟨G0,6,none⟩ (.slice pa ms.length pc)=WZ at*
          have d0:=aaa WZ G0 0 _ _ _ e2;have d1:=aaa WZ G0 1 _ _ _ e2;have d2:=aaa WZ G0 2 _ _ _ e2;have d3:=aaa WZ G0 3 _ _ _ e2;have d4:=aaa WZ G0 4 _ _ _ e2;have d5:=aaa WZ G0 5 _ _ _ e2;have d6:=aaa WZ G0 6 _ _ _ e2;simp at d0 d1 d2 d3 d4 d5 d6;refine aar (v:=ct (iR L T n0 n1 n2 n3 (dD ms)) ⟨la,lc,ta,tc,pa,pc,ms⟩) ?_ rfl ⟨iR L T n0 n1 n2 n3 (dD ms),⟨la,lc,ta,tc,pa,pc,ms⟩,_,rfl,e1,⟨(e3 (G0+2) _ (by omega) HO.out).mono (by have:=CO.out;omega),rfl⟩,.inl ⟨AA.out.1,AA.out.2,HJ.out⟩⟩;simp [results,results60,go_sem,ct,a_,iR,mY,d0,d1,d2,d3,d4,d5,d6]
        ·have af:(len:Int)<(n:Int):=by omega
         go_upto_region 16 with fail;obtain ⟨wa,cW⟩:=Haa (wr.alloc (.cells #[.int .i64 0,.slice none 0 0] 38));rw [cW.out];have fe:Below wr.heap.size wr wa:=by rw [<-cW.out];exact aA wr _
         have HB:Hid (wa.heap[wr.heap.size]?=some (.cells #[.int .i64 0,.slice none 0 0] 38 (0,0))):=hd (by rw [<-cW.out];exact aae wr _);have nQ:Hid (∀d∈lP (iR L T n0 n1 n2 n3 (dD ms)) ⟨la,lc,ta,tc,pa,pc,ms⟩,∀k,ae d.a=some k->k<wr.heap.size):=hd HL.out.own.lt;have HC:=hd (HL.out.cb.below fe);have HO:=hd (HL.out.own.below fe)
         have HS:Hid (cL (jb bs) s' (bQ (il 1 fun n=>bf 0 ((L.length:Int)-1) n) (fun part=>bQ (GD n2) (fun l=>bQ (iQ (fun _=>wN L.length n2) (n-(ms.length+1)) (dD ms++[⟨part,l⟩])) (jf L T n0 n1 n2 n3))) bs s'.nx)):=hd (by
          rw [<-rep_eq,show n-(ms.length+1)+1=n-ms.length by have:=HM.out;omega]
          exact HL.out.st)
         have hBG:G0+2<=wr.heap.size:=HL.out.sz;have yz:Hid (wr.heap.size<wa.heap.size):=hd (aab.1 HB.out).1;obtain ⟨Bp,G6⟩:=Haa wr.heap.size;rw [G6.out]at HB nQ hBG yz⊢;clear cW fe G6 HL;have hc:=T7 HC.out.out.1 L.length (by omega);have x0:=HC.out.cell 0;simp [a_,iR]at x0;replace HS:=hd (cL.uh HS.out);generalize (cN bs 1 (fun n=>bf 0 ((L.length:Int)-1) n) s').1=v at*
         generalize (cN bs 1 (fun n=>bf 0 ((L.length:Int)-1) n) s').2=s6 at*
         have HK:Hid (∀W1,aN wa r a cap bs s6 W1->W1.heap[Bp]?=some (.cells #[.int .i64 0,.slice none 0 0] 38 (0,0))):=hd (fun W1 o1=>(o1.2.block Bp (aab.1 HB.out).1 (by omega)).trans HB.out);go_upto_region 17 with(go_at_call 85;refine hc.mono ?_;rintro e wb ⟨rfl,ob⟩;have y0:=aaa wb Bp 0 _ _ _ (HK.out wb ob);have y1:wb.frozen? ⟨Bp,0,none⟩=false:=by{simp [World.frozen?,HK.out wb ob]};simp at y0;replace ob:=hd ob);replace HB:=hd (aax wb Bp 0 _ _ (.int .i64 (v:Int)) (HK.out wb ob.out));replace HC:=hd ((HC.out.step H.out ob.out).other H.out (show G0+1<Bp by omega) 0 (.int .i64 (v:Int)));replace HO:=hd ((HO.out.step ob.out (by omega)).other (G:=Bp) (fun d hd k hk=>Nat.ne_of_lt (nQ.out d hd k hk)) 0 (.int .i64 (v:Int)));replace yz:Hid (Bp<wb.heap.size):=hd (aam yz.out ob.out.2.size);obtain ⟨wc,PY⟩:=Haa (wb.setCell ⟨Bp,0,none⟩ (.int .i64 (v:Int)));replace yz:Hid (Bp<wc.heap.size):=hd (by rw [<-PY.out];simpa [World.setCell]using yz.out);rw [PY.out]at HC HO HB⊢;simp only [List.setIfInBounds_toArray,List.set_cons_zero]at HB;clear PY hc x0 y0 y1 HK ob;by_cases hz:s6.e=0
         ·have hf:=i_ HC.out.out.1 false (by simp [hz]);replace hz:=hd hz;have hc:=program_any HC.out.out.1 (XP.out _ _ HC.out.out).1 hr ⟨hz.out,(HS.out.good hz.out).2⟩ n2;have x4:=HC.out.cell 4;simp [a_,iR]at x4;have HK:Hid (∀W1 s7,aN wc r a cap bs s7 W1->W1.heap[Bp]?=some (.cells #[.int .i64 (v:Int),.slice none 0 0] 38 (0,0))):=hd (fun W1 s7 o1=>(o1.2.block Bp (aab.1 HB.out).1 (by omega)).trans HB.out);go_upto_region 18 with(go_at_call 80;refine hf.mono ?_;rintro e wq ⟨rfl,eU⟩;obtain rfl:wc=wq:=eU.symm);clear hf;go_upto_region 19 with(go_at_call 86;refine hc.mono ?_;rintro e wd ⟨ca,cc,l,rfl,s7,mk,st,Ay⟩;have y0:=aaa wd Bp 1 _ _ _ (HK.out wd s7 mk.out);have y1:wd.frozen? ⟨Bp,1,none⟩=false:=by{simp [World.frozen?,HK.out wd s7 mk.out]};simp at y0;replace mk:=hd mk);replace HS:=hd (cL.sub HS.out hz.out st);replace HB:=hd (aax wd Bp 1 _ _ (.slice ca l.length cc) (HK.out wd s7 mk.out.out));replace HC:=hd ((HC.out.step H.out mk.out.out).other H.out (show G0+1<Bp by omega) 1 (.slice ca l.length cc));have G7:Hid (bT (G0+2) wd (sy ⟨⟨v,l⟩,ca,cc⟩::lP (iR L T n0 n1 n2 n3 (dD ms)) ⟨la,lc,ta,tc,pa,pc,ms⟩)):=hd (HO.out.add (by omega) (by have:=yz.out;omega) mk.out)
          replace HO:Hid (bT (G0+2) (wd.setCell ⟨Bp,1,none⟩ (.slice ca l.length cc)) (sy ⟨⟨v,l⟩,ca,cc⟩::lP (iR L T n0 n1 n2 n3 (dD ms)) ⟨la,lc,ta,tc,pa,pc,ms⟩)):=hd (G7.out.other (G:=Bp) (fun d hd k hk=>by
           rcases aa0.1 hd with rfl|hd
           ·have h1:=mk.out.new k hk;have:=yz.out;omega
           ·exact Nat.ne_of_lt (nQ.out d hd k hk)) 1 (.slice ca l.length cc))
          have KS:Hid (Bp<wd.heap.size):=hd (aam yz.out mk.out.out.2.size);obtain ⟨we,Eu⟩:=Haa (wd.setCell ⟨Bp,1,none⟩ (.slice ca l.length cc));replace KS:Hid (Bp<we.heap.size):=hd (by rw [<-Eu.out];simpa [World.setCell]using KS.out);rw [Eu.out]at HC HO HB⊢;simp only [List.setIfInBounds_toArray,List.set_cons_zero,List.set_cons_succ]at HB;clear Eu hc x4 y0 y1 HK mk st G7 hz yz;by_cases hz:s7.e=0
          ·have hf:=i_ HC.out.out.1 false (by simp [hz]);replace hz:=hd hz;have x6:=HC.out.cell 6;simp [a_,iR,mY,HM.out]at x6;have z0:=aaa we Bp 0 _ _ _ HB.out;have z1:=aaa we Bp 1 _ _ _ HB.out;simp at z0 z1
           have HR:Hid (Row we 38 2 pa len pc (jw ms)):=hd (by
            have h1:=HO.out.ok ⟨38,2,pa,(dD ms).length,pc,jw ms⟩ (by simp [lP,iR]);rw [mY,HM.out]at h1
            exact h1)
           obtain ⟨qV,uj,wf,aO,hR,G8,qi⟩:=mX underlying24 Ts rfl (by omega) HR.out (by omega) (dS ⟨⟨v,l⟩,ca,cc⟩) rfl (UJ _);rw [<-HM.out]at hR;have HE:=hd (Af.more (n:=n) H.out PS HC.out HO.out (by have:=KS.out;omega) G8 hR qi (by exact HS.out) hz.out);rw [HM.out]at HE;have g1:=HE.out.1.1;have g2:=HE.out.1.2;replace aO:Hid (∀ty,(Builtin.append_ #[24,24] ty #[.slice pa len pc,.slice (some ⟨we.heap.size,0,none⟩) 1 1]).run prog (we.alloc (.cells #[.int .i64 (v:Int),.slice ca l.length cc] 38))=.ok (.slice qV (len+1) uj) wf):=hd aO;clear HR HB HC HO HS G8 qi hR nQ KS;go_wp2_with (first|(go_at_call 80;refine hf.mono ?_;rintro e wq ⟨rfl,eU⟩;obtain rfl:we=wq:=eU.symm)|(at_builtin;refine dZ rfl _ _ _ rfl _ _ _ _ rfl rfl aO.out ?_;clear aO));go_roundg (gk-1)
           case rel=>exact ⟨ms++[⟨⟨v,l⟩,ca,cc⟩],len+1,qV,uj,s7,by go_num,by omega,hd (by simp [HM.out]),hd HE.out.2⟩
           case measure=>omega
          ·have hf:=i_ HC.out.out.1 true (by simp [hz]);have HJ:=hd (show s7.e≠0/\jb bs=.er s7.e s7.at_ from⟨hz,HS.out.bad hz⟩);clear hz;go_wp2_with (go_at_call 80;refine hf.mono ?_;rintro e wq ⟨rfl,eU⟩;obtain rfl:we=wq:=eU.symm);go_step3;exact And.intro rfl ⟨⟨_,_,_,_,_,_,_,_,_,_,_,_,_,_,_,_,_,_,_,_,_,_,_,_,_,_,_,_,_,_,_,_,_,_,_,_,_,_,_,_,_,_,_,_,_,_,_,_,_,_,_,_,_,_,_,_,_,_,_,_,_,_,_,_,_,_,_,_,rfl⟩,s7,_,HJ.out.1,HJ.out.2,HC.out⟩
         ·have hf:=i_ HC.out.out.1 true (by simp [hz]);have HJ:=hd (show s6.e≠0/\jb bs=.er s6.e s6.at_ from⟨hz,HS.out.bad hz⟩);clear hz;go_wp2_with (go_at_call 80;refine hf.mono ?_;rintro e wq ⟨rfl,eU⟩;obtain rfl:wc=wq:=eU.symm);go_step3;exact And.intro rfl ⟨⟨_,_,_,_,_,_,_,_,_,_,_,_,_,_,_,_,_,_,_,_,_,_,_,_,_,_,_,_,_,_,_,_,_,_,_,_,_,_,_,_,_,_,_,_,_,_,_,_,_,_,_,_,_,_,_,_,_,_,_,_,_,_,_,_,_,_,_,_,rfl⟩,s6,_,HJ.out.1,HJ.out.2,HC.out⟩
      ·have hf:=i_ HC.out.out.1 true (by simp [hz]);have HJ:=hd (show s5.e≠0/\jb bs=.er s5.e s5.at_ from⟨hz,HS.out.bad hz⟩);clear hz;go_wp2_with (go_at_call 80;refine hf.mono ?_;rintro e wq ⟨rfl,eU⟩;obtain rfl:w9=wq:=eU.symm);go_step3;exact And.intro rfl ⟨⟨_,_,_,_,_,_,_,_,_,_,_,_,_,_,_,_,_,_,_,_,_,_,_,_,_,_,_,_,_,_,_,_,_,_,_,_,_,_,_,_,_,_,_,_,_,_,_,_,_,_,_,_,_,_,_,_,_,_,_,_,_,_,_,_,_,_,_,_,rfl⟩,s5,_,HJ.out.1,HJ.out.2,HC.out⟩
     ·have hf:=i_ HC.out.out.1 true (by simp [hz]);have HJ:=hd (show s4.e≠0/\jb bs=.er s4.e s4.at_ from⟨hz,HS.out.bad hz⟩);clear hz;go_wp2_with (go_at_call 80;refine hf.mono ?_;rintro e wq ⟨rfl,eU⟩;obtain rfl:w8=wq:=eU.symm);go_step3;exact And.intro rfl ⟨⟨_,_,_,_,_,_,_,_,_,_,_,_,_,_,_,_,_,_,_,_,_,_,_,_,_,_,_,_,_,_,_,_,_,_,_,_,_,_,_,_,_,_,_,_,_,_,_,_,_,_,_,_,_,_,_,_,_,_,_,_,_,_,_,_,_,_,_,_,rfl⟩,s4,_,HJ.out.1,HJ.out.2,HC.out⟩
    ·have hf:=i_ HC.out.out.1 true (by simp [hz]);have HJ:=hd (show s3.e≠0/\jb bs=.er s3.e s3.at_ from⟨hz,HS.out.bad hz⟩);clear hz;go_wp2_with (go_at_call 80;refine hf.mono ?_;rintro e wq ⟨rfl,eU⟩;obtain rfl:w6=wq:=eU.symm);go_step3;exact And.intro rfl ⟨⟨_,_,_,_,_,_,_,_,_,_,_,_,_,_,_,_,_,_,_,_,_,_,_,_,_,_,_,_,_,_,_,_,_,_,_,_,_,_,_,_,_,_,_,_,_,_,_,_,_,_,_,_,_,_,_,_,_,_,_,_,_,_,_,_,_,_,_,_,rfl⟩,s3,_,HJ.out.1,HJ.out.2,HC.out⟩
   ·have hf:=i_ HC.out.out.1 true (by simp [hz]);have HJ:=hd (show s2.e≠0/\jb bs=.er s2.e s2.at_ from⟨hz,HS.out.bad hz⟩);clear hz;go_wp2_with (go_at_call 80;refine hf.mono ?_;rintro e wq ⟨rfl,eU⟩;obtain rfl:w4=wq:=eU.symm);go_step3;exact And.intro rfl ⟨⟨_,_,_,_,_,_,_,_,_,_,_,_,_,_,_,_,_,_,_,_,_,_,_,_,_,_,_,_,_,_,_,_,_,_,_,_,_,_,_,_,_,_,_,_,_,_,_,_,_,_,_,_,_,_,_,_,_,_,_,_,_,_,_,_,_,_,_,_,rfl⟩,s2,_,HJ.out.1,HJ.out.2,HC.out⟩
  ·have hf:=i_ HC.out.out.1 true (by simp [hz]);have HJ:=hd (show s1.e≠0/\jb bs=.er s1.e s1.at_ from⟨hz,HS.out.bad hz⟩);clear hz;go_wp2_with (go_at_call 80;refine hf.mono ?_;rintro e wq ⟨rfl,eU⟩;obtain rfl:w2=wq:=eU.symm);go_step3;exact And.intro rfl ⟨⟨_,_,_,_,_,_,_,_,_,_,_,_,_,_,_,_,_,_,_,_,_,_,_,_,_,_,_,_,_,_,_,_,_,_,_,_,_,_,_,_,_,_,_,_,_,_,_,_,_,_,_,_,_,_,_,_,_,_,_,_,_,_,_,_,_,_,_,_,rfl⟩,s1,_,HJ.out.1,HJ.out.2,HC.out⟩
 ·rintro a' W ⟨⟨u1,u4,u5,u6,u7,u8,u9,u10,u11,u12,u13,u14,u15,u16,u17,u18,u19,u20,u21,u22,u23,u24,u25,u26,u27,u28,u29,u30,u31,u32,u33,u34,u35,u36,u37,u38,u39,u40,u41,u42,u43,u44,u45,u46,u47,u48,u49,u50,u51,u52,u53,u54,u55,u56,u57,u58,u59,u60,u61,u62,u63,u64,u65,u66,u67,u68,u69,u70,rfl⟩,s',xs,hz,hw,G9⟩;have HC:=hd G9;have HJ:=hd hw;have XQ:=hd hz;have hf:=i_ HC.out.out.1 true (by simp [XQ.out]);clear G9 hw hz;have a0:=HC.out.cell0 0;have a1:=HC.out.cell0 1;have a2:=HC.out.cell0 2;have a3:=HC.out.cell0 3;have a4:=HC.out.cell0 4;have a5:=HC.out.cell0 5;have a6:=HC.out.cell0 6;have fz:=HC.out.Oz;simp at a0 a1 a2 a3 a4 a5 a6;go_wp2_with (go_at_call 80;refine hf.mono ?_;rintro e wq ⟨rfl,eU⟩;obtain rfl:W=wq:=eU.symm);simp only [Exit.jump];obtain ⟨e1,e2,e3⟩:=HC.out.ends H.out (.slice none 0 0) (.slice none 0 0) (.int .i64 0) (.int .i64 0) (.int .i64 0) (.int .i64 0) (.slice none 0 0);unfold wF at e1 e2 e3;generalize ((((((W.setCell ⟨G0,0,none⟩ (.slice none 0 0)).setCell ⟨G0,1,none⟩ (.slice none 0 0)).setCell ⟨G0,2,none⟩ (.int .i64 0)).setCell ⟨G0,3,none⟩ (.int .i64 0)).setCell ⟨G0,4,none⟩ (.int .i64 0)).setCell ⟨G0,5,none⟩ (.int .i64 0)).setCell ⟨G0,6,none⟩ (.slice none 0 0)=WZ at*
  have d0:=aaa WZ G0 0 _ _ _ e2;have d1:=aaa WZ G0 1 _ _ _ e2;have d2:=aaa WZ G0 2 _ _ _ e2;have d3:=aaa WZ G0 3 _ _ _ e2;have d4:=aaa WZ G0 4 _ _ _ e2;have d5:=aaa WZ G0 5 _ _ _ e2;have d6:=aaa WZ G0 6 _ _ _ e2;simp at d0 d1 d2 d3 d4 d5 d6;refine aar (v:=ct (nN) qU) ?_ rfl ⟨nN,qU,_,rfl,e1,kS.none _ _,.inr ⟨XQ.out,rfl,rfl,HJ.out⟩⟩;simp [results,results60,go_sem,ct,a_,nN,qU,d0,d1,d2,d3,d4,d5,d6]
end
def Ge(w:World)(bs:List Nat)(e:Ending)(w':World):Prop:=
 ∃g,e=.returned (.tuple #[ct (qI bs).1 g,.int .i64 (qI bs).2.1,.int .i64 (qI bs).2.2])/\kS w.heap.size w' (qI bs).1 g/\Below w.heap.size w w'
variable{bs:List Nat}
theorem Tu(h:1048576<bs.length):qI bs=(nN,22,1048576):=by
 unfold qI Kk;rw [aah h]
theorem UK{c:ak}{q:Nat}(h:¬1048576<bs.length)(hw:jb bs=.ok c q):qI bs=(c,0,0):=by
 unfold qI Kk;rw [aaf h];show(match jb bs with| .ok c _=>(c,0,0)| .er e a=>(nN,e,a))=_;rw [hw]
theorem UL{e a:Int}(h:¬1048576<bs.length)(hw:jb bs=.er e a):qI bs=(nN,e,a):=by
 unfold qI Kk;rw [aaf h];show(match jb bs with| .ok c _=>(c,0,0)| .er e a=>(nN,e,a))=_;rw [hw]
theorem Uc{W:World}{G:Nat}{x0 x1 x2 x3 x4 x5 x6:Value}(h:W.heap[G]?=some (.cells #[x0,x1,x2,x3,x4,x5,x6] 26 (0,0)))(v0 v1 v2 v3 v4 v5 v6:Value):
 (wF W G v0 v1 v2 v3 v4 v5 v6).heap[G]?=some (.cells #[v0,v1,v2,v3,v4,v5,v6] 26 (0,0))/\Mod (fun k=>k=G) W (wF W G v0 v1 v2 v3 v4 v5 v6):=
 ⟨Sw h,(((((((Mod.refl (fun k=>k=G) W).setCell (.inl rfl) _).setCell (.inl rfl) _).setCell (.inl rfl) _).setCell (.inl rfl) _).setCell (.inl rfl) _).setCell (.inl rfl) _).setCell (.inl rfl) _⟩
theorem bR.two{w:World}(h:bR w):2<=w.heap.size:=by
 have:=aaj w _ (h 0 (by omega));simp only at this;omega
theorem cdecode_long(a:Option Addr)(cap n:Nat)(w:World)(hn:1048576<n):
 Calls prog 47 #[.slice a n cap] w fun e w'=>e=.returned (.tuple #[ct nN qU,.int .i64 22,.int .i64 1048576])/\Below w.heap.size w w':=by
 have XR:(1048576:Int)<(n:Int):=by omega
 have ai:=hd (aA w (.cells #[.slice none 0 0,.slice none 0 0,.int .i64 0,.int .i64 0,.int .i64 0,.int .i64 0,.slice none 0 0] 26));have hh:=hd (aae w (.cells #[.slice none 0 0,.slice none 0 0,.int .i64 0,.int .i64 0,.int .i64 0,.int .i64 0,.slice none 0 0] 26));go_enter func47,ntmps47;go_upto_region 1 with fail;obtain ⟨w1,aR⟩:=Haa (w.alloc (.cells #[.slice none 0 0,.slice none 0 0,.int .i64 0,.int .i64 0,.int .i64 0,.int .i64 0,.slice none 0 0] 26));rw [aR.out]at ai hh⊢;obtain ⟨G,hG⟩:=Haa w.heap.size;rw [hG.out]at hh⊢;clear aR;have a0:=aaa w1 G 0 _ _ _ hh.out;have a1:=aaa w1 G 1 _ _ _ hh.out;have a2:=aaa w1 G 2 _ _ _ hh.out;have a3:=aaa w1 G 3 _ _ _ hh.out;have a4:=aaa w1 G 4 _ _ _ hh.out;have a5:=aaa w1 G 5 _ _ _ hh.out;have a6:=aaa w1 G 6 _ _ _ hh.out;simp at a0 a1 a2 a3 a4 a5 a6;have fz:∀i,w1.frozen? ⟨G,i,none⟩=false:=fun i=>by simp [World.frozen?,hh.out]
 go_wp2_with fail;obtain ⟨e2,e3⟩:=Uc hh.out (.slice none 0 0) (.slice none 0 0) (.int .i64 0) (.int .i64 0) (.int .i64 0) (.int .i64 0) (.slice none 0 0);unfold wF at e2 e3;generalize ((((((w1.setCell ⟨G,0,none⟩ (.slice none 0 0)).setCell ⟨G,1,none⟩ (.slice none 0 0)).setCell ⟨G,2,none⟩ (.int .i64 0)).setCell ⟨G,3,none⟩ (.int .i64 0)).setCell ⟨G,4,none⟩ (.int .i64 0)).setCell ⟨G,5,none⟩ (.int .i64 0)).setCell ⟨G,6,none⟩ (.slice none 0 0)=WZ at*
 have d0:=aaa WZ G 0 _ _ _ e2;have d1:=aaa WZ G 1 _ _ _ e2;have d2:=aaa WZ G 2 _ _ _ e2;have d3:=aaa WZ G 3 _ _ _ e2;have d4:=aaa WZ G 4 _ _ _ e2;have d5:=aaa WZ G 5 _ _ _ e2;have d6:=aaa WZ G 6 _ _ _ e2;simp at d0 d1 d2 d3 d4 d5 d6;refine aar (v:=.tuple #[ct nN qU,.int .i64 22,.int .i64 1048576]) ?_ rfl ⟨rfl, ?_⟩
 ·simp [results,results47,go_sem,ct,a_,nN,qU,d0,d1,d2,d3,d4,d5,d6]
 ·have:=ai.out.size;exact ai.out.trans (e3.below (by omega) (fun k _ hk=>by have:=hG.out;omega))
theorem cdecode_short(a:Option Addr)(cap:Nat)(bs:List Nat)(w:World)(hR:Rd w a (eA bs))(hb:rZ bs)(iP:bs.length<=cap)(hF:bR w)(hL:eQ w)(hn:¬1048576<bs.length):
 Calls prog 47 #[.slice a bs.length cap] w (Ge w bs):=by
 have XR:(bs.length:Int)<=1048576:=by omega
 have uk:decide ((1048576:Int)<(bs.length:Int))=false:=by simp;omega
 have h2:=hF.two
 have HE:Hid (∀(c:ak) (g:Loc) (s':St) (W:World),kS w.heap.size W c g->Below w.heap.size w W->((s'.e=0/\s'.at_=0/\∃q,jb bs=.ok c q)\/(s'.e≠0/\c=nN/\g=qU/\jb bs=.er s'.e s'.at_))->Ge w bs (.returned (.tuple #[ct c g,.int .i64 s'.e,.int .i64 s'.at_])) W):=hd (by
  rintro c g s' W ho hw (⟨h1,h2,q,h3⟩|⟨h1,rfl,rfl,h3⟩)
  ·refine ⟨g, ?_, ?_,hw⟩
   ·rw [UK hn h3,h1,h2]
   ·rw [UK hn h3];exact ho
  ·refine ⟨qU, ?_, ?_,hw⟩
   ·rw [UL hn h3]
   ·rw [UL hn h3]
    exact kS.none _ _)
 go_enter func47,ntmps47;go_upto_region 4 with fail;obtain ⟨w1,aR⟩:=Haa ((w.alloc (.cells #[.slice none 0 0,.slice none 0 0,.int .i64 0,.int .i64 0,.int .i64 0,.int .i64 0,.slice none 0 0] 26)).alloc (.cells #[.slice a bs.length cap,.int .i64 0,.int .i64 0,.int .i64 0,.int .i64 0] 131));rw [aR.out];have aH:Below w.heap.size w w1:=by rw [<-aR.out];exact ((aak _ w).alloc (aag _) _).alloc (by simp) _
 have HG:Hid (w1.heap[w.heap.size]?=some (.cells #[.slice none 0 0,.slice none 0 0,.int .i64 0,.int .i64 0,.int .i64 0,.int .i64 0,.slice none 0 0] 26 (0,0))):=hd (by
  rw [<-aR.out,(aA _ _).block _ (by simp)]
  exact aae w _)
 have HR:Hid (dW w1 (w.heap.size+1) a cap bs ⟨0,0,0,0⟩):=hd (by
  refine ⟨?_,hR.below aH, ?_,hb,by omega,iP,aaq _,aaq _⟩
  ·rw [<-aR.out,show w.heap.size+1=(w.alloc (.cells #[.slice none 0 0,.slice none 0 0,.int .i64 0,.int .i64 0,.int .i64 0,.int .i64 0,.slice none 0 0] 26)).heap.size by simp];exact aae _ _
  ·intro hz k hk e;obtain ⟨b,o,rfl,hc⟩:=hR 0 (.int .u8 ((bs.getD 0 0:Nat):Int)) (by simp [eA,List.getD_eq_getElem?_getD,List.getElem?_eq_getElem (show 0<bs.length by omega)]);have:=aaj w _ hc
   cases hk
   simp only at this e
   omega)
 have wS:=hF.kept aH;have XS:=hL.kept aH;have hc:=config_any HR.out wS XS (by omega) ⟨rfl,rfl,rfl⟩;have gi:Hid (w1.heap.size=w.heap.size+2):=hd (by rw [<-aR.out];simp);have jO:=hd aH;obtain ⟨G,hG⟩:=Haa w.heap.size;rw [hG.out]at HR HG hc⊢;clear aH aR wS XS hF hL hR h2;go_upto_region 5 with(go_at_call 60;refine hc.mono ?_;rintro e w2 ⟨c,g,s',rfl,o2,jX,kQ⟩;unfold ct a_;replace o2:=hd o2;replace jX:=hd jX;replace kQ:=hd kQ);obtain ⟨w3,iH⟩:=Haa (w2.alloc (.cells #[.slice g.la c.labels.length g.lc,.slice g.ta c.table.length g.tc,.int .i64 c.fuel,.int .i64 c.lane,.int .i64 c.aF,.int .i64 c.log,.slice g.pa c.procs.length g.pc] 26));rw [iH.out];have eH:Below w2.heap.size w2 w3:=by rw [<-iH.out];exact aA w2 _
 have HB:Hid (w3.heap[w2.heap.size]?=some (.cells #[.slice g.la c.labels.length g.lc,.slice g.ta c.table.length g.tc,.int .i64 c.fuel,.int .i64 c.lane,.int .i64 c.aF,.int .i64 c.log,.slice g.pa c.procs.length g.pc] 26 (0,0))):=hd (by rw [<-iH.out];exact aae w2 _);have yw:w2.heap[G]?=some (.cells #[.slice none 0 0,.slice none 0 0,.int .i64 0,.int .i64 0,.int .i64 0,.int .i64 0,.slice none 0 0] 26 (0,0)):=(o2.out.2.block G (aab.1 HG.out).1 (by omega)).trans HG.out;have yB:Hid (w3.heap[G]?=some (.cells #[.slice none 0 0,.slice none 0 0,.int .i64 0,.int .i64 0,.int .i64 0,.int .i64 0,.slice none 0 0] 26 (0,0))):=hd ((eH.block G (aab.1 yw).1).trans yw);have eV:=hd (o2.out.1.below eH);have cD:G+2<=w2.heap.size:=by have h1:=o2.out.2.size;have h2:=gi.out;have h3:=hG.out;omega
 have PZ:Hid (kS w1.heap.size w3 c g):=hd (jX.out.below eH);have wV:Hid (Below w.heap.size w w3):=hd (jO.out.trans ((o2.out.2.below (B:=w.heap.size) (by have:=gi.out;omega) (fun k _ hk=>by have:=hG.out;omega)).trans (eH.mono (by have:=hG.out;omega))));obtain ⟨B2,kr⟩:=Haa w2.heap.size;rw [kr.out]at HB cD⊢;clear iH eH kr yw o2 jX hc HG HR;have a0:=aaa w3 G 0 _ _ _ yB.out;have a1:=aaa w3 G 1 _ _ _ yB.out;have a2:=aaa w3 G 2 _ _ _ yB.out;have a3:=aaa w3 G 3 _ _ _ yB.out;have a4:=aaa w3 G 4 _ _ _ yB.out;have a5:=aaa w3 G 5 _ _ _ yB.out;have a6:=aaa w3 G 6 _ _ _ yB.out;have b0:=aaa w3 B2 0 _ _ _ HB.out;have b1:=aaa w3 B2 1 _ _ _ HB.out;have b2:=aaa w3 B2 2 _ _ _ HB.out;have b3:=aaa w3 B2 3 _ _ _ HB.out;have b4:=aaa w3 B2 4 _ _ _ HB.out;have b5:=aaa w3 B2 5 _ _ _ HB.out;have b6:=aaa w3 B2 6 _ _ _ HB.out;simp at a0 b0 a1 b1 a2 b2 a3 b3 a4 b4 a5 b5 a6 b6;have fz:∀i,w3.frozen? ⟨G,i,none⟩=false:=fun i=>by simp [World.frozen?,yB.out]
 have r3:=eV.out.cells.2.2.2.1;have r4:=eV.out.cells.2.2.2.2;have XT:G≠B2:=by omega
 have XU:G≠G+1:=by omega
 go_region_held3 (fun w'=>w'.cell? ⟨G+1,3,none⟩=some (.int .i64 s'.e)/\w'.cell? ⟨G+1,4,none⟩=some (.int .i64 s'.at_)/\w'.cell? ⟨B2,0,none⟩=some (.slice g.la c.labels.length g.lc)/\w'.cell? ⟨B2,1,none⟩=some (.slice g.ta c.table.length g.tc)/\w'.cell? ⟨B2,2,none⟩=some (.int .i64 c.fuel)/\w'.cell? ⟨B2,3,none⟩=some (.int .i64 c.lane)/\w'.cell? ⟨B2,4,none⟩=some (.int .i64 c.aF)/\w'.cell? ⟨B2,5,none⟩=some (.int .i64 c.log)/\w'.cell? ⟨B2,6,none⟩=some (.slice g.pa c.procs.length g.pc)) (go_keep) (fail);go_wp2_with fail;obtain ⟨e2,e3⟩:=Uc yB.out (.slice g.la c.labels.length g.lc) (.slice g.ta c.table.length g.tc) (.int .i64 c.fuel) (.int .i64 c.lane) (.int .i64 c.aF) (.int .i64 c.log) (.slice g.pa c.procs.length g.pc);unfold wF at e2 e3;generalize ((((((w3.setCell ⟨G,0,none⟩ (.slice g.la c.labels.length g.lc)).setCell ⟨G,1,none⟩ (.slice g.ta c.table.length g.tc)).setCell ⟨G,2,none⟩ (.int .i64 c.fuel)).setCell ⟨G,3,none⟩ (.int .i64 c.lane)).setCell ⟨G,4,none⟩ (.int .i64 c.aF)).setCell ⟨G,5,none⟩ (.int .i64 c.log)).setCell ⟨G,6,none⟩ (.slice g.pa c.procs.length g.pc)=WZ at*
 have d0:=aaa WZ G 0 _ _ _ e2;have d1:=aaa WZ G 1 _ _ _ e2;have d2:=aaa WZ G 2 _ _ _ e2;have d3:=aaa WZ G 3 _ _ _ e2;have d4:=aaa WZ G 4 _ _ _ e2;have d5:=aaa WZ G 5 _ _ _ e2;have d6:=aaa WZ G 6 _ _ _ e2;simp at d0 d1 d2 d3 d4 d5 d6;have HO4:kS w.heap.size WZ.drew c g:=by
  have h1:=PZ.out.own.mod e3 (fun d hd k hk e=>by have h1:=PZ.out.own.new d hd k hk;have h2:=gi.out;have h3:=hG.out;omega);exact ⟨(h1.below (ck WZ 1)).mono (by have:=gi.out;omega),PZ.out.ps⟩
 have G_:Below w.heap.size w WZ.drew:=(wV.out.trans (e3.below (B:=w.heap.size) wV.out.size (fun k _ hk=>by have:=hG.out;omega))).trans ((ck WZ 1).mono (by have h1:=wV.out.size;have h2:=e3.size;omega));have AB:=HE.out c g s' WZ.drew HO4 G_ kQ.out;refine aar (v:=.tuple #[ct c g,.int .i64 s'.e,.int .i64 s'.at_]) ?_ rfl AB;simp [results,results47,go_sem,ct,a_,d0,d1,d2,d3,d4,d5,d6]
theorem cdecode_any(a:Option Addr)(cap:Nat)(bs:List Nat)(w:World)(hR:Rd w a (eA bs))(hb:rZ bs)(iP:bs.length<=cap)(hF:bR w)(hL:eQ w):
 Calls prog 47 #[.slice a bs.length cap] w (Ge w bs):=by
 by_cases hn:1048576<bs.length
 ·refine (cdecode_long a cap bs.length w hn).mono fun e w' ⟨he,hb⟩=>⟨qU, ?_, ?_,hb⟩
  ·rw [Tu hn];exact he
  ·rw [Tu hn];exact kS.none _ _
 ·exact cdecode_short a cap bs w hR hb iP hF hL hn
end Go.Proofs.YthopnfbjiifhhaaGreatDoor
