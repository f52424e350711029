/- The end of a process: what comes of the rest. -/
import Derived.Test.YthopnfbjiifhhaaGreatDoorGMc
set_option maxHeartbeats 8000000
set_option maxRecDepth 100000
namespace Go.Proofs.YthopnfbjiifhhaaGreatDoor
open Go.RowKit
variable{α:Type}{i p n c:Nat}{m:MS}{w w':World}{a:Option Addr}{e:TypeId}{l:Lay}{U:Nat->Prop}
theorem zI(L:List α)(i:Nat)(d:α)(h:i<L.length):L.take (i+1)=L.take i++[L.getD i d]:=by
 rw [aaD h,aac,aad h];rfl
theorem Nr{L:List α}{d:α}(h:i<L.length):L.getD i d∈L:=by
 rw [aac,aad h];exact aaG h
theorem leave_snoc(m:MS)(p:Nat)(L:List Nat)(q:Nat):ni m p (L++[q])=(ni m p L).bM q fun x=>{x with ss:=(aL.rU x.ss p).2}:=by
 unfold ni;rw [List.foldl_append];rfl
theorem aG.leaves{c:ak}(p:Nat):∀(L:List Nat) {m:MS},aG c m->(∀q∈L,q<c.procs.length)->aG c (ni m p L)
 |[],_,h,_=>h
 |q::r,m,h,hq=>by
  have h1:aG c (m.bM q fun x=>{x with ss:=(aL.rU x.ss p).2}):=h.J_ (hq q aaA) ((h.ls (hq q aaA)).leave p) (fun _=>rfl) (fun _=>rfl);exact aG.leaves p r h1 (fun x hx=>hq x (aaw _ hx))
def pR(m:MS)(out:List (Int×Int)):MS:=out.foldl (fun m g=>qG m g.2) m
def tJ(c:ak)(m:MS)(ws:List (Int×Int)):MS:=ws.foldl (fun m x=>zV c m x.1.toNat 2) m
theorem gives_snoc(m:MS)(L:List (Int×Int))(g:Int×Int):pR m (L++[g])=qG (pR m L) g.2:=by
 unfold pR;rw [List.foldl_append];rfl
theorem tells_snoc(c:ak)(m:MS)(L:List (Int×Int))(g:Int×Int):tJ c m (L++[g])=zV c (tJ c m L) g.1.toNat 2:=by
 unfold tJ;rw [List.foldl_append];rfl
theorem aG.gives{c:ak}:∀(L:List (Int×Int)) {m:MS},aG c m->(∀g∈L,g.2=-1\/jg c g.2)->aG c (pR m L)
 |[],_,h,_=>h
 |g::r,_,h,hg=>aG.gives r (h.given (hg g aaA)) (fun x hx=>hg x (aaw _ hx))
theorem aG.tells{c:ak}:∀(L:List (Int×Int)) {m:MS},aG c m->(∀g∈L,jg c g.1)->aG c (tJ c m L)
 |[],_,h,_=>h
 |g::r,_,h,hg=>aG.tells r (h.told (OL (hg g aaA)) 2) (fun x hx=>hg x (aaw _ hx))
def Eb(m:MS)(p:Nat)(st:Int):MS:=m.bM p fun x=>{x with st:=st,fired:=false}
def Ec(c:ak)(m:MS)(p:Nat)(st:Int):MS:=ni (Eb m p st) p (aQ c (pa c p))
def tX(c:ak)(m1:MS)(p:Nat):List Int×List (List Int)×List (Int×Int):=aV.qM (aM m1 (pa c p)).os (aM m1 (pa c p)).qs p
def tY(c:ak)(m1:MS)(p:Nat):MS:=m1.dO (pa c p) fun t=>{t with os:=(tX c m1 p).1,qs:=(tX c m1 p).2.1}
def uQ(m3:MS)(p:Nat):MS:=m3.bM p fun x=>{x with ss:=(aL.jf (aB m3 p).ss).2}
theorem NW(c:ak)(m:MS)(p:Nat)(st:Int):yc c m p st=
 (let m1:=Ec c m p st
  let m3:=(pR (tY c m1 p) (tX c m1 p).2.2).bM p fun x=>{x with timer:=0,bE:=0}
  tJ c (uQ m3 p) (aL.jf (aB m3 p).ss).1):=rfl
theorem aG.tY{c:ak}(h:aG c m)(hc:dK c)(hp:p<c.procs.length):aG c (tY c m p)/\∀g∈(tX c m p).2.2,g.2=-1\/jg c g.2:=by
 have ho:=(h.Ig (hc.D4 hp)).over hc p;exact ⟨h.modL (hc.D4 hp) ho.1 (fun _=>rfl) (fun _=>rfl) (fun _=>rfl) (fun _=>rfl),ho.2⟩
theorem aG.Xf{c:ak}(h:aG c m)(hp:p<c.procs.length):aG c (m.bM p fun x=>{x with timer:=0,bE:=0}):=
 h.bM hp (h.ls hp) ⟨⟨abe 0,by have:=h.t0;simp only;omega⟩,abe 0,by have:=h.t0;simp only;omega⟩
theorem aG.uQ{c:ak}(h:aG c m)(hp:p<c.procs.length):aG c (uQ m p)/\∀g∈(aL.jf (aB m p).ss).1,jg c g.1:=by
 refine ⟨h.J_ hp (h.ls hp).over (fun _=>rfl) (fun _=>rfl),fun g hg=> ?_⟩;obtain ⟨s,hs,hx⟩:=List.mem_flatMap.1 hg;exact h.qW p hp s hs g hx
theorem Up:∀(l os:List Int) (qs:List (List Int)) (out:List (Int×Int)),(aV.oH l os qs out).2.2.length=out.length+l.length
 |[],_,_,_=>rfl
 |i::r,os,qs,out=>by
  unfold aV.oH;rw [Up r];simp;omega
theorem endA_len(os:List Int)(qs:List (List Int))(p:Int):(aV.qM os qs p).2.2.length<=os.length:=by
 unfold aV.qM;rw [Up];have:=aV.S9 os p os.length;show[].length+(aV.qF os p os.length).length<=os.length;simpa using this
theorem U5{out:List (Int×Int)}(hR:Row w e 2 a n c (aV.wC out))(hi:i<out.length):∃g,a=some ⟨g,0,none⟩/\w.cell? ⟨g,i*2,none⟩=some (.int .i64 (out.getD i (0,0)).1)/\w.cell? ⟨g,i*2+1,none⟩=some (.int .i64 (out.getD i (0,0)).2):=by
 have hl:=hR.len;have iK:(aV.wC out).length=out.length*2:=aV.tI out;have e1:=aV.v_ out i hi;obtain ⟨g,rfl,h1⟩:=hR.cell (i*2) (by omega);obtain ⟨g',e2,h2⟩:=hR.cell (i*2+1) (by omega)
 cases e2
 exact ⟨g,rfl,by rw [h1,e1.1],by rw [h2,e1.2]⟩
structure pS(w:World)(l:Lay)(U:Nat->Prop)(m:MS)(a:Option Addr)(n c:Nat)(out:List (Int×Int))(e:TypeId):Prop where
 ma:Mk w l U m
 row:Row w e 2 a n c (aV.wC out)
 ap:∀k,ae a=some k->¬U k
theorem pS.step{U':Nat->Prop}{m':MS}{out:List (Int×Int)}(h:pS w l U m a n c out e)(t:To w U w' U')(hk:Mk w' l U' m'):pS w' l U' m' a n c out e:=
 ⟨hk,h.row.mod t.1 h.ap,fun k hk hu=>by
  rcases t.2 k hu with h1|h1
  ·exact h.ap k hk h1
  ·have:=h.row.lt k hk
   omega⟩
theorem pS.below{out:List (Int×Int)}(h:pS w l U m a n c out e)(hb:Below w.heap.size w w'):pS w' l U m a n c out e:=⟨h.ma.below hb,h.row.below hb,h.ap⟩
section
variable{w w':World} {l:Lay} {m:MS} {U:Nat->Prop} {p q i j:Nat}
theorem end_m(h:Mk w l U m)(hs:aG l.c m)(hc:dK l.c)(hp:p<l.c.procs.length)(st:Int):Calls Tryz.prog 133 #[.pointer (some ⟨l.bm,0,none⟩),.pointer (some ⟨l.bq p,0,none⟩),.int .i64 st] w fun e w'=>e=.returned (.tuple #[])/\dm w l U (yc l.c m p st) w':=by
 have nP:=hc.D4 hp;obtain ⟨M,hM⟩:=Haa (yc l.c m p st);have mw:Hid (∀m1,Ec l.c m p st=m1->yc l.c m p st=tJ l.c (uQ ((pR (tY l.c m1 p) (tX l.c m1 p).2.2).bM p fun x=>{x with timer:=0,bE:=0}) p) (aL.jf (aB ((pR (tY l.c m1 p) (tX l.c m1 p).2.2).bM p fun x=>{x with timer:=0,bE:=0}) p).ss).1):=hd (fun m1 e=>by rw [NW,e]);rw [hM.out]at mw⊢;have c3:=(h.dS hp).c3;have j_:=(h.dS hp).j_;have fr:=(h.dS hp).fr;have HC:=hd hc;have HP:=hd hp;have HA:=hd nP;have uC:Hid (aG l.c (Eb m p st)):=hd (hs.CE hp (fun _=>rfl) (fun _=>rfl) (fun _=>rfl) (fun _=>rfl));have Lj:Hid (dm w l U (Eb m p st) ((w.setCell ⟨l.bq p,3,none⟩ (.int .i64 st)).setCell ⟨l.bq p,13,none⟩ (.bool false))):=hd (h.DT hs hp (f:=fun x=>{x with st:=st,fired:=false}) (fun _=>rfl) (fun _=>rfl) (fun _=>rfl) (fun _=>rfl) (dz (dP _ _ _ _) _ _) (UY (JQ (h.zP hp) st) false));obtain ⟨mA,rJ⟩:=Haa (Eb m p st);have Xg:Hid (Ec l.c m p st=ni mA p (aQ l.c (pa l.c p))):=hd (by unfold Ec;rw [rJ.out]);rw [rJ.out]at uC Lj;rw [Xg.out]at mw;replace mw:=hd (mw.out _ rfl);obtain ⟨n,hn⟩:=Haa ((aQ l.c (pa l.c p)).length);have hn32:n<=32:=by have:=JP l.c (pa l.c p);have:=hn.out;have:=hc.k_;omega
 clear h hs hc hp nP Xg rJ hM;go_enter Tryz.func133,Tryz.ntmps133;go_upto_region 1 with fail;obtain ⟨W,hW⟩:=Haa ((w.setCell ⟨l.bq p,3,none⟩ (.int .i64 st)).setCell ⟨l.bq p,13,none⟩ (.bool false));rw [hW.out]at Lj⊢;clear hW c3 j_ fr;obtain ⟨U0,t0,k0⟩:=Lj.out.get;clear Lj;have c1:=(k0.dS HP.out).c1;have n1:=(k0.vH HA.out).2.1;rw [hn.out]at n1;obtain ⟨ar,QS⟩:=Haa (l.ar (pa l.c p));rw [QS.out]at n1;have Y1:Hid (∃U1,To w U W U1/\Mk W l U1 (ni mA p ((aQ l.c (pa l.c p)).take 0))):=hd ⟨U0,t0,by simpa [ni]using k0⟩;clear t0 k0;go_wp2_with fail;go_loopg [27] n (fun k v27 wr=>∃i:Nat,v27=.int .i64 (i:Int)/\i+k=n/\Hid (∃U1,To w U wr U1/\Mk wr l U1 (ni mA p ((aQ l.c (pa l.c p)).take i))))
 case atStart=>exact ⟨0,rfl,by omega,Y1⟩
 case round=>
  obtain ⟨i,rfl,dh,HH⟩:=hrel;clear Y1 c1 n1;by_cases af:i<n
  ·have fI:(i:Int)<(n:Int):=by omega
   have bP:i<(aQ l.c (pa l.c p)).length:=by rw [hn.out];exact af
   obtain ⟨U1,t1,k1⟩:=HH.out;obtain ⟨g,ag,cg⟩:=k1.rowAt HA.out bP;obtain ⟨q,hq⟩:=Haa ((aQ l.c (pa l.c p)).getD i 0);rw [hq.out]at cg;have De:q∈aQ l.c (pa l.c p):=by rw [<-hq.out];exact Oj bP
   have kz:=(kG.1 De).1;have xC:Hid (aG l.c (ni mA p ((aQ l.c (pa l.c p)).take i))):=hd (aG.leaves p _ uC.out (fun x hx=>(kG.1 (List.mem_of_mem_take hx)).1));have Ih:=(k1.dS kz).kM;have x0:=(k1.dS HP.out).c0;obtain ⟨F,hF,fG⟩:=k1.drew.J_ xC.out kz;have mK:=aL.pleave_any hF ((xC.out.ls kz).good.n2) (aai ((xC.out.ls kz).Li HC.out) (by decide)) p
   have HN:Hid (∀w2,aL.Gq wr.drew 244 283 245 (l.bo q) F (aL.rU (aB (ni mA p ((aQ l.c (pa l.c p)).take i)) q).ss p).2 (aB (ni mA p ((aQ l.c (pa l.c p)).take i)) q).lc w2->∃U1,To w U w2 U1/\Mk w2 l U1 (ni mA p ((aQ l.c (pa l.c p)).take (i+1)))):=hd (fun w2 ho=>by
    have h2:=(DU t1).out (fG w2 (fun x=>{x with ss:=(aL.rU x.ss p).2}) (fun _=>rfl) (fun _=>rfl) (fun _=>rfl) (fun _=>rfl) (fun _=>rfl) ho);rw [zI _ i 0 bP,hq.out,leave_snoc];obtain ⟨U2,t2,k2⟩:=h2.get
    exact ⟨U2,t2,k2⟩)
   obtain rfl:ar=some ⟨g,0,none⟩:=QS.out.symm.trans ag;clear t1 k1 hF fG HH bP De kz xC mw;go_upto_region 4 with fail;go_region_law (first|(go_simp;(with_reducible refine mK.mono ?_);rintro e w2 ⟨rfl,ho⟩))
   all_goals (
    go_wp2_with fail;go_roundg (gk-1)
    case rel=>exact ⟨i+1,by go_num,by omega,hd (HN.out w2 ho)⟩
    case measure=>omega)
  ·have jr:i=n:=by omega
   subst jr;obtain ⟨U1,t1,k1⟩:=HH.out;rw [aap (by have:=hn.out;omega)]at k1;have sW:Hid (aG l.c (ni mA p (aQ l.c (pa l.c p)))):=hd (aG.leaves p _ uC.out (fun x hx=>(kG.1 hx).1));obtain ⟨m1,di⟩:=Haa (ni mA p (aQ l.c (pa l.c p)));rw [di.out]at k1 sW mw;clear di HH uC dh af hn QS;have x1:=(k1.dS HP.out).c1;have x0:=(k1.dS HP.out).c0;have y6:=(k1.vH HA.out).2.2.2.2.2.1;have ru:=hd (sW.out.tY HC.out HP.out);obtain ⟨F,hF,yY,fG⟩:=k1.drew.kB HA.out;have qw:=aV.NL hF (aai ((sW.out.Ig HA.out).total HC.out) (by decide)) (fitL HC.out HP.out);have QT:pa l.c p<m1.pt.length:=by rw [sW.out.np];exact HA.out
   have fM:Hid (∀e w2,aV.Cd wr.drew (l.bl (pa l.c p)) F (aV.qM (aM m1 (pa l.c p)).os (aM m1 (pa l.c p)).qs p).1 (aV.qM (aM m1 (pa l.c p)).os (aM m1 (pa l.c p)).qs p).2.1 (aV.qM (aM m1 (pa l.c p)).os (aM m1 (pa l.c p)).qs p).2.2 e w2->
    ∃a c,e=.returned (.slice a (tX l.c m1 p).2.2.length c)/\Hid (∃U2,To w U w2 U2/\pS w2 l U2 (tY l.c m1 p) a (tX l.c m1 p).2.2.length c (tX l.c m1 p).2.2 272)):=hd (fun e w2 he=>by
    obtain ⟨q1,F',a,c,rfl,q2,q3,q4,q5⟩:=he;refine ⟨a,c,rfl,hd ?_⟩;have h2:=Gg.of (A:=fun k=>ae a=some k) k1.drew yY q3 (fun k hk=>q5 k hk) (fG w2 (tY l.c m1 p) F' q1 (by unfold tY;rw [FK QT];exact q2) q3 (fun y hy=>agr_lck (f:=fun t=>{t with os:=(tX l.c m1 p).1,qs:=(tX l.c m1 p).2.1}) (fun _=>rfl) (fun _=>rfl) (fun _=>rfl) (fun _=>rfl) QT hy));obtain ⟨r1,U2,r2,r3,r4⟩:=h2
    exact ⟨U2,(DU t1).trans ⟨r1,r3⟩,⟨r2,q4,r4⟩⟩)
   obtain ⟨m2,cO⟩:=Haa (tY l.c m1 p);obtain ⟨out,xY⟩:=Haa ((tX l.c m1 p).2.2);obtain ⟨N,hN⟩:=Haa out.length;rw [cO.out]at fM ru mw;rw [xY.out]at fM ru mw;rw [hN.out]at fM;have PX:N<=100000:=by
    have h8:=(sW.out.lk _ HA.out).1.le;have:out.length<=8:=by
     rw [<-xY.out];exact aai (endA_len _ _ _) h8
    have:=hN.out;omega
   obtain ⟨wo,K8⟩:=Haa wr;clear t1 k1 hF yY fG QT cO xY sW;go_upto_region 6 with fail;go_cut [52,53,54] (fun v52 v53 v54 wy=>∃a c,v52=.slice a N c/\v53=.int .i64 (N:Int)/\v54=.int .i64 0/\Hid (∃U2,To w U wy U2/\pS wy l U2 m2 a N c out 272))
   case first=>
    go_region_law (first|(go_simp;(with_reducible refine qw.mono ?_);rintro e w2 he;obtain ⟨a,cc,rfl,HX⟩:=fM.out e w2 he;clear he))
    all_goals (
     go_wp2_with fail;go_meet
     case rel=>exact ⟨a,cc,rfl,rfl,rfl,HX⟩)
   case rest=>
    obtain ⟨a,cc,rfl,rfl,rfl,HB⟩:=hcut;clear qw fM x1 x0 y6;have aX:Hid (∃U2,To w U wc U2/\pS wc l U2 (pR m2 (out.take 0)) a N cc out 272):=HB;clear HB;go_wp2_with fail;go_loopg [54] N (fun k v54 wr=>∃i:Nat,v54=.int .i64 (i:Int)/\i+k=N/\Hid (∃U2,To w U wr U2/\pS wr l U2 (pR m2 (out.take i)) a N cc out 272))
    case atStart=>exact ⟨0,rfl,by omega,aX⟩
    case round=>
     obtain ⟨i,rfl,dh,HH⟩:=hrel;clear aX;by_cases af:i<N
     ·have fI:(i:Int)<(N:Int):=by omega
      have bP:i<out.length:=by rw [hN.out];exact af
      obtain ⟨U2,t2,k2⟩:=HH.out;obtain ⟨g,rfl,d0,d1⟩:=U5 k2.row bP;obtain ⟨x,hx⟩:=Haa (out.getD i (0,0));rw [hx.out]at d0 d1;have xC:Hid (aG l.c (pR m2 (out.take i))):=hd (aG.gives _ ru.out.1 (fun g hg=>ru.out.2 g (List.mem_of_mem_take hg)));have EL:x.2=-1\/jg l.c x.2:=ru.out.2 x (by rw [<-hx.out];exact Nr bP);obtain ⟨V,hV⟩:=Haa (wr.alloc (.cells #[.int .i64 x.1,.int .i64 x.2] 272));obtain ⟨gb,qX⟩:=Haa wr.heap.size;have yZ:Below wr.heap.size wr V:=by rw [<-hV.out];exact aA wr _
      have uD:V.heap[gb]?=some (.cells #[.int .i64 x.1,.int .i64 x.2] 272 (0,0)):=by rw [<-hV.out,<-qX.out];exact aae wr _
      have b1:V.cell? ⟨gb,1,none⟩=some (.int .i64 x.2):=by rw [aaa _ _ _ _ _ _ uD];rfl
      have kV:=k2.below yZ;have Ll:=given_m kV.ma xC.out EL
      have HN:Hid (∀w3,dm V l U2 (qG (pR m2 (out.take i)) x.2) w3->∃U3,To w U w3 U3/\pS w3 l U3 (pR m2 (out.take (i+1))) (some ⟨g,0,none⟩) N cc out 272):=hd (fun w3 ho=>by
       obtain ⟨U3,t3,k3⟩:=ho.get;refine ⟨U3,(t2.au yZ).trans t3, ?_⟩;rw [zI _ i (0,0) bP,hx.out,gives_snoc]
       exact kV.step t3 k3)
      clear t2 k2 kV yZ uD HH xC EL mw;go_upto_region 9 with fail;rw [hV.out,qX.out];go_wp2_with (go_at_call 166;refine Ll.mono ?_;rintro e w3 ⟨rfl,ho⟩;clear Ll);go_roundg (gk-1)
      case rel=>exact ⟨i+1,by go_num,by omega,hd (HN.out w3 ho)⟩
      case measure=>omega
     ·have jr:i=N:=by omega
      subst jr;obtain ⟨U2,t2,k2⟩:=HH.out;have k2:=k2.ma;rw [aap (by have:=hN.out;omega)]at k2;have y_:Hid (aG l.c (pR m2 out)):=hd (aG.gives _ ru.out.1 ru.out.2);obtain ⟨m3,mr⟩:=Haa (pR m2 out);rw [mr.out]at k2 y_ mw;clear mr HH ru dh af hN;have AJ:p<m3.pr.length:=by rw [y_.out.nq];exact HP.out
      have Cy:=HC.out.k_;have HPP:=HP.out;have x1:=(k2.dS HP.out).c1;have y7:=(k2.vH HA.out).2.2.2.2.2.2.1;have qy:=Un k2.drew HC.out HP.out;have bZ:=k2.drew.Vy y_.out HC.out HP.out (2*(p:Int)) (fun x=>{x with timer:=0}) (by omega) ⟨fun _=>rfl,fun _=>rfl,fun _=>rfl,fun _=>rfl,fun _=>rfl⟩ (fun L hL=>wok_noTimer hL AJ);have AU:Hid (aG l.c (m3.bM p fun x=>{x with timer:=0})):=hd (y_.out.bM HP.out (y_.out.ls HP.out) ⟨⟨abe 0,by have:=y_.out.t0;simp only;omega⟩,(y_.out.vG p HP.out).2⟩);have p_:((m3.bM p fun x=>{x with timer:=0}).bM p fun x=>{x with bE:=0})=m3.bM p fun x=>{x with timer:=0,bE:=0}:=TJ AJ
      obtain ⟨m4,Xh⟩:∃x,Hid ((m3.bM p fun x=>{x with timer:=0})=x):=⟨_,rfl⟩;rw [Xh.out]at bZ AU p_;have Hd:p<m4.pr.length:=by rw [AU.out.nq];exact HP.out
      replace p_:=hd p_;replace t2:=hd (DU t2);clear k2 AJ Xh HPP;go_upto_region 11 with fail;go_cut [72] (fun v72 wy=>Hid (∃U3,To w U wy U3/\Mk wy l U3 m4))
      case first=>
       go_region_law (first
        |(go_simp;(with_reducible refine qy.mono ?_);rintro e w1 ⟨rfl,rfl⟩)
        |(go_simp;(with_reducible refine bZ.mono ?_);rintro e w2 ⟨⟨b,rfl⟩,ho⟩))
       all_goals (
        go_wp2_with fail;go_meet
        case rel=>exact hd (t2.out.out ho).get)
      case rest=>
       obtain ⟨U3,t3,k3⟩:=hcut.out;clear hcut bZ qy x1 y7 t2;have x1:=(k3.dS HP.out).c1;have y7:=(k3.vH HA.out).2.2.2.2.2.2.1;have qy:=Nq k3.drew HC.out HP.out;have bZ:=k3.drew.Vy AU.out HC.out HP.out (2*(p:Int)+1) (fun x=>{x with bE:=0}) (by have:=HP.out;omega) ⟨fun _=>rfl,fun _=>rfl,fun _=>rfl,fun _=>rfl,fun _=>rfl⟩ (fun L hL=>wok_noWake hL Hd);rw [p_.out]at bZ;have Df:=hd (y_.out.Xf HP.out);obtain ⟨m5,Y2⟩:∃x,Hid ((m3.bM p fun x=>{x with timer:=0,bE:=0})=x):=⟨_,rfl⟩;rw [Y2.out]at bZ Df mw;replace t3:=hd (DU t3);clear k3 Hd p_ Y2 AU y_;go_upto_region 12 with fail;go_cut [82] (fun v82 wy=>Hid (∃U3,To w U wy U3/\Mk wy l U3 m5))
       case first=>
        go_region_law (first
         |(go_simp;(with_reducible refine qy.mono ?_);rintro e w1 ⟨rfl,rfl⟩)
         |(go_simp;(with_reducible refine bZ.mono ?_);rintro e w2 ⟨⟨b,rfl⟩,ho⟩))
        all_goals (
         go_wp2_with fail;go_meet
         case rel=>exact hd (t3.out.out ho).get)
       case rest=>
        obtain ⟨U4,t4,k4⟩:=hcut.out;clear hcut bZ qy x1 y7 t3;have Ih:=(k4.dS HP.out).kM;obtain ⟨F,hF,yY,fG⟩:=k4.jQ HP.out;have qw:=aL.pend_any hF ((Df.out.ls HP.out).good.n2) (aai ((Df.out.ls HP.out).Li HC.out) (by decide));have QU:p<m5.pr.length:=by rw [Df.out.nq];exact HP.out
        have EM:=hd (Df.out.uQ HP.out);have GU:=(Df.out.ls HP.out).Li HC.out
        have CQ:Hid (∀e w2,aL.Cd wc 244 283 245 (l.bo p) F (aB m5 p).ss (aB m5 p).lc e w2->
         ∃a c,e=.returned (.slice a (aL.jf (aB m5 p).ss).1.length c)/\Hid (∃U2,To w U w2 U2/\pS w2 l U2 (uQ m5 p) a (aL.jf (aB m5 p).ss).1.length c (aL.jf (aB m5 p).ss).1 187)):=hd (fun e w2 he=>by
         obtain ⟨a,c,rfl,q1,q2,q3,F',q4,q5,q6⟩:=he;refine ⟨a,c,rfl,hd ?_⟩;have h2:=Gg.of (A:=fun k=>ae a=some k) k4 yY q5 (fun k hk=>⟨q2 k hk,q6 k hk⟩) (fG w2 (uQ m5 p) F' q3 (by unfold uQ;rw [DL QU];exact q4) q5 (fun y hy=>UU (f:=fun x=>{x with ss:=(aL.jf (aB m5 p).ss).2}) (fun _=>rfl) (fun _=>rfl) (fun _=>rfl) (fun _=>rfl) (fun _=>rfl) QU hy));obtain ⟨r1,U2,r2,r3,r4⟩:=h2
         exact ⟨U2,t4.trans ⟨r1,r3⟩,⟨r2,q1,r4⟩⟩)
        obtain ⟨m6,EN⟩:=Haa (uQ m5 p);obtain ⟨ws,QV⟩:=Haa ((aL.jf (aB m5 p).ss).1);obtain ⟨K,hK⟩:=Haa ws.length;rw [EN.out]at CQ EM mw;rw [QV.out]at CQ EM mw;rw [hK.out]at CQ;have hK9:K<=100000:=by
         have h9:(aL.jf (aB m5 p).ss).1.length<=288:=GU;rw [QV.out]at h9;have:=hK.out;omega
        clear t4 k4 hF yY fG QU EN QV Df GU;go_upto_block 4 with(go_at_call 168;refine qw.mono ?_;rintro e w2 he;obtain ⟨a,cc,rfl,HX⟩:=CQ.out e w2 he;clear he qw CQ);have aX:Hid (∃U2,To w U w2 U2/\pS w2 l U2 (tJ l.c m6 (ws.take 0)) a K cc ws 187):=HX;clear HX Ih;go_wp2_with fail;go_loopg [89] K (fun k v89 wr=>∃i:Nat,v89=.int .i64 (i:Int)/\i+k=K/\Hid (∃U2,To w U wr U2/\pS wr l U2 (tJ l.c m6 (ws.take i)) a K cc ws 187))
        case atStart=>exact ⟨0,rfl,by omega,aX⟩
        case round=>
         obtain ⟨i,rfl,dh,HH⟩:=hrel;clear aX;by_cases af:i<K
         ·have fI:(i:Int)<(K:Int):=by omega
          have bP:i<ws.length:=by rw [hK.out];exact af
          obtain ⟨U2,t2,k2⟩:=HH.out;obtain ⟨g,rfl,d0,d1⟩:=U5 k2.row bP;obtain ⟨x,hx⟩:=Haa (ws.getD i (0,0));rw [hx.out]at d0 d1;have xC:Hid (aG l.c (tJ l.c m6 (ws.take i))):=hd (aG.tells _ EM.out.1 (fun g hg=>EM.out.2 g (List.mem_of_mem_take hg)));have EL:jg l.c x.1:=EM.out.2 x (by rw [<-hx.out];exact Nr bP);obtain ⟨x1,x2⟩:=x;obtain ⟨rn,rfl⟩:∃n:Nat,x1=(n:Int):=⟨x1.toNat,by have:=EL.1;simp only at this;omega⟩;dsimp only at d0 d1;have gM:rn<l.c.procs.length:=by have:=EL.2;simp only at this;omega
          have hno':(rn:Int)<(l.c.procs.length:Int):=by omega
          obtain ⟨V,hV⟩:=Haa (wr.alloc (.cells #[.int .i64 (rn:Int),.int .i64 x2] 187));obtain ⟨gb,qX⟩:=Haa wr.heap.size;have yZ:Below wr.heap.size wr V:=by rw [<-hV.out];exact aA wr _
          have uD:V.heap[gb]?=some (.cells #[.int .i64 (rn:Int),.int .i64 x2] 187 (0,0)):=by rw [<-hV.out,<-qX.out];exact aae wr _
          have b0:V.cell? ⟨gb,0,none⟩=some (.int .i64 (rn:Int)):=by rw [aaa _ _ _ _ _ _ uD];rfl
          have kV:=(k2.below yZ).below (fu V);have Ll:=told_m kV.ma xC.out gM 2;have m11:=(k2.below yZ).ma.sU.2.2.2.2.2.2.1;obtain ⟨gp,ag,cg⟩:=(k2.below yZ).ma.Ga gM;rw [ag]at m11
          have HN:Hid (∀w3,dm V.drew l U2 (zV l.c (tJ l.c m6 (ws.take i)) rn 2) w3->∃U3,To w U w3 U3/\pS w3 l U3 (tJ l.c m6 (ws.take (i+1))) (some ⟨g,0,none⟩) K cc ws 187):=hd (fun w3 ho=>by
           obtain ⟨U3,t3,k3⟩:=ho.get;refine ⟨U3,(DU (t2.au yZ)).trans t3, ?_⟩;rw [zI _ i (0,0) bP,hx.out,tells_snoc]
           exact kV.step t3 k3)
          clear t2 k2 kV yZ uD HH xC EL mw;go_upto_region 16 with fail;rw [hV.out,qX.out];go_region_law (first|(go_simp;(with_reducible refine Ll.mono ?_);rintro e w3 ⟨rfl,ho⟩))
          all_goals (
           go_wp2_with fail;go_roundg (gk-1)
           case rel=>exact ⟨i+1,by go_num,by omega,hd (HN.out w3 ho)⟩
           case measure=>omega)
         ·have jr:i=K:=by omega
          subst jr;obtain ⟨U2,t2,k2⟩:=HH.out;have k2:=k2.ma;rw [aap (by have:=hK.out;omega),<-mw.out]at k2;have HO:=hd (t2.mk k2);clear t2 k2 HH EM dh af hK mw;go_wp2_with fail;go_end0;exact ⟨rfl,HO.out⟩
end
end Go.Proofs.YthopnfbjiifhhaaGreatDoor
