/- How a process stands, as it is told. -/
import Derived.Test.YthopnfbjiifhhaaGreatDoorGMe
import Derived.Test.YthopnfbjiifhhaaGreatDoorGMh
set_option maxHeartbeats 8000000
set_option maxRecDepth 100000
namespace Go.Proofs.YthopnfbjiifhhaaGreatDoor
open Go.RowKit Go.Proofs.Tryz
structure iN where
 x:cF
 la:Option Addr
 lc:Nat
 ls:List aL.eD
instance:Inhabited iN:=⟨⟨default,none,0,[]⟩⟩
def lz(t:iN):List Value:=[.int .i64 t.x.st,.int .i64 t.x.core.pc,.int .i64 (t.x.core.r 0),.int .i64 (t.x.core.r 1),.int .i64 (t.x.core.r 2),.int .i64 (t.x.core.r 3),.int .i64 (t.x.core.r 4),.int .i64 (t.x.core.r 5),.int .i64 (t.x.core.r 6),.int .i64 (t.x.core.r 7),
 .int .i64 (t.x.lc:Int),.int .i64 t.x.timer,.bool t.x.fired,.int .i64 t.x.bE,.slice t.la t.x.ss.length t.lc]
def Ir(t:iN):Value:=.agg (lz t).toArray
structure tM(B:Nat)(w:World)(t:iN)(F:Nat->Prop):Prop where
 row:Row w 147 4 t.la t.ls.length t.lc (aL.iV t.ls)
 at':aL.nI B w t.ls
 tells:aL.wi t.ls t.x.ss
 ge:∀k,F k->B<=k
 lt:∀k,F k->k<w.heap.size
 fa:∀k,ae t.la=some k->F k
 ft:∀i,i<t.ls.length->∀k,aL.tb (aL.ay t.ls i) k->F k
 ap:∀k,ae t.la=some k->∀i,i<t.ls.length->¬aL.tb (aL.ay t.ls i) k
variable{w wy:World}{G:Nat}
theorem tM.mod{B:Nat}{w':World}{t:iN}{F S:Nat->Prop}(h:tM B w t F)(hm:Mod S w w')(hn:∀k,F k->¬S k):tM B w' t F:=
 ⟨h.row.mod hm (fun k hk=>hn k (h.fa k hk)),h.at'.mod hm (fun i hi k hk=>hn k (h.ft i hi k hk)),h.tells,h.ge,fun k hk=>aam (h.lt k hk) hm.size,h.fa,h.ft,h.ap⟩
def OQ(w:World)(x:cF)(E:Ending)(w':World):Prop:=∃t F,E=.returned (Ir t)/\t.x=x/\tM w.heap.size w' t F/\Below w.heap.size w w'
theorem ff_set(v0 v1 v2 v3 v4 v5 v6 v7 v8 v9 v10 v11 v12 v13 v14 u0 u1 u2 u3 u4 u5 u6 u7 u8 u9 u10 u11 u12 u13 u14:Value):(((((((((((((((#[v0,v1,v2,v3,v4,v5,v6,v7,v8,v9,v10,v11,v12,v13,v14].setIfInBounds 0 u0).setIfInBounds 1 u1).setIfInBounds 2 u2).setIfInBounds 3 u3).setIfInBounds 4 u4).setIfInBounds 5 u5).setIfInBounds 6 u6).setIfInBounds 7 u7).setIfInBounds 8 u8).setIfInBounds 9 u9).setIfInBounds 10 u10).setIfInBounds 11 u11).setIfInBounds 12 u12).setIfInBounds 13 u13).setIfInBounds 14 u14)=#[u0,u1,u2,u3,u4,u5,u6,u7,u8,u9,u10,u11,u12,u13,u14]:=by simp
theorem ff_cells{W:World}{g:Nat}{T:TypeId}{v0 v1 v2 v3 v4 v5 v6 v7 v8 v9 v10 v11 v12 v13 v14:Value}(h:W.heap[g]?=some (.cells #[v0,v1,v2,v3,v4,v5,v6,v7,v8,v9,v10,v11,v12,v13,v14] T (0,0)))(u0 u1 u2 u3 u4 u5 u6 u7 u8 u9 u10 u11 u12 u13 u14:Value):(((((((((((((((W.setCell ⟨g,0,none⟩ u0).setCell ⟨g,1,none⟩ u1).setCell ⟨g,2,none⟩ u2).setCell ⟨g,3,none⟩ u3).setCell ⟨g,4,none⟩ u4).setCell ⟨g,5,none⟩ u5).setCell ⟨g,6,none⟩ u6).setCell ⟨g,7,none⟩ u7).setCell ⟨g,8,none⟩ u8).setCell ⟨g,9,none⟩ u9).setCell ⟨g,10,none⟩ u10).setCell ⟨g,11,none⟩ u11).setCell ⟨g,12,none⟩ u12).setCell ⟨g,13,none⟩ u13).setCell ⟨g,14,none⟩ u14).heap[g]?=some (.cells #[u0,u1,u2,u3,u4,u5,u6,u7,u8,u9,u10,u11,u12,u13,u14] T (0,0)):=by
 rw [aU (aU (aU (aU (aU (aU (aU (aU (aU (aU (aU (aU (aU (aU (aU h u0) u1) u2) u3) u4) u5) u6) u7) u8) u9) u10) u11) u12) u13) u14,ff_set]
theorem ff_mod(W:World)(g:Nat)(u0 u1 u2 u3 u4 u5 u6 u7 u8 u9 u10 u11 u12 u13 u14:Value):Mod (fun k=>k=g) W (((((((((((((((W.setCell ⟨g,0,none⟩ u0).setCell ⟨g,1,none⟩ u1).setCell ⟨g,2,none⟩ u2).setCell ⟨g,3,none⟩ u3).setCell ⟨g,4,none⟩ u4).setCell ⟨g,5,none⟩ u5).setCell ⟨g,6,none⟩ u6).setCell ⟨g,7,none⟩ u7).setCell ⟨g,8,none⟩ u8).setCell ⟨g,9,none⟩ u9).setCell ⟨g,10,none⟩ u10).setCell ⟨g,11,none⟩ u11).setCell ⟨g,12,none⟩ u12).setCell ⟨g,13,none⟩ u13).setCell ⟨g,14,none⟩ u14):=(dz (dz (dz (dz (dz (dz (dz (dz (dz (dz (dz (dz (dz (dz (dP _ _ _ _) _ _) _ _) _ _) _ _) _ _) _ _) _ _) _ _) _ _) _ _) _ _) _ _) _ _) _ _)
theorem U9{c:ak}{m:MS}{i p:Nat}{L:List aZ.Th}(h:kC c m i L)(hg:aZ.gA L)(hp:p∈aQ c i)(h0:0<=(aB m p).timer)(h1:0<=(aB m p).bE):(aZ.qP (2*(p:Int)) L).1=(aB m p).timer/\(aZ.qP (2*(p:Int)+1) L).1=(aB m p).bE:=by
 constructor
 ·by_cases e:0<(aB m p).timer
  ·have:=aZ.MR hg ((h _).2 ⟨p,hp,.inl ⟨rfl,e⟩⟩);simp only at this;rw [this]
  ·rw [aZ.MT]
   ·simp only;omega
   ·rw [Bool.eq_false_iff];intro hs;obtain ⟨t,ht,e2⟩:=aZ.rR.1 hs;obtain ⟨q,hq,⟨rfl,h3⟩|⟨rfl,h3⟩⟩:=(h t).1 ht
    ·have:q=p:=by simp only at e2;omega
     subst this;exact e h3
    ·simp only at e2;omega
 ·by_cases e:0<(aB m p).bE
  ·have:=aZ.MR hg ((h _).2 ⟨p,hp,.inr ⟨rfl,e⟩⟩);simp only at this;rw [this]
  ·rw [aZ.MT]
   ·simp only;omega
   ·rw [Bool.eq_false_iff];intro hs;obtain ⟨t,ht,e2⟩:=aZ.rR.1 hs;obtain ⟨q,hq,⟨rfl,h3⟩|⟨rfl,h3⟩⟩:=(h t).1 ht
    ·simp only at e2;omega
    ·have:q=p:=by simp only at e2;omega
     subst this;exact e h3
def z72:Array Value:=#[.int .i64 0,.int .i64 0,.int .i64 0,.int .i64 0,.int .i64 0,.int .i64 0,.int .i64 0,.int .i64 0,.int .i64 0,.int .i64 0,.int .i64 0,.int .i64 0,.bool false,.int .i64 0,.slice none 0 0]
structure tf(w:World)(G:Nat)(cs:Array Value)(wy:World):Prop where
 box:wy.heap[G]?=some (.cells cs 115 (0,0))
 res:wy.heap[w.heap.size]?=some (.cells z72 115 (0,0))
 au:Below w.heap.size w wy
 gt:w.heap.size<G
theorem tf.on{cs:Array Value}{w2:World}(h:tf w G cs wy)(hb:Below wy.heap.size wy w2):tf w G cs w2:=
 ⟨by rw [hb.block _ (aab.1 h.box).1];exact h.box,by rw [hb.block _ (aab.1 h.res).1];exact h.res,h.au.trans (hb.mono h.au.size),h.gt⟩
theorem tf.put{cs:Array Value}(h:tf w G cs wy)(o:Nat)(u:Value):tf w G (cs.setIfInBounds o u) (wy.setCell ⟨G,o,none⟩ u):=by
 have hm:=dP wy G o u;have hg:=h.gt;refine ⟨aU h.box u, ?_,(h.au.setCell (p:=⟨G,o,none⟩) (by simp only;omega) u),h.gt⟩;rw [hm.block _ (aab.1 h.res).1 (by omega)];exact h.res
section
variable{w w':World} {l:Lay} {m:MS} {U:Nat->Prop} {p q i j:Nat}
theorem qstand_m(h:Mk w l U m)(hs:aG l.c m)(hc:dK l.c)(hp:p<l.c.procs.length):Calls prog 106 #[.pointer (some ⟨l.bq p,0,none⟩)] w (OQ w (aB m p)):=by
 have nP:=hc.D4 hp;have HK:=hd h;have HS:=hd hs;have HC:=hd hc;have HP:=hd hp;have HA:=hd nP;obtain ⟨W0,aD⟩:=Haa (w.alloc (.cells z72 115));have ai:Below w.heap.size w W0:=by rw [<-aD.out];exact aA w _
 have CF:Hid (W0.heap.size=w.heap.size+1):=hd (by rw [<-aD.out];simp);have kQ:W0.heap[w.heap.size]?=some (.cells z72 115 (0,0)):=by rw [<-aD.out];exact aae w _
 obtain ⟨x,hx⟩:=Haa (aB m p);obtain ⟨c0,c1,c2,c3,c4,c5,c6,c7,c8,c9,lV,lW,lX,j_,kM,fr⟩:=(h.below ai).dS hp;have Er:Hid (∀ob,Dc (W0.alloc ob) l p (aB m p)):=hd (fun ob=>(h.below (ai.alloc ai.size ob)).dS hp);rw [hx.out]at Er c3 c4 c5 c6 c7 c8 c9 lV lW lX j_⊢;obtain ⟨Q,hQ⟩:=Haa (OQ w x);rw [hQ.out]
 have lC:Hid (tf w W0.heap.size #[.int .i64 x.st,.int .i64 x.core.pc,.int .i64 (x.core.r 0),.int .i64 (x.core.r 1),.int .i64 (x.core.r 2),.int .i64 (x.core.r 3),.int .i64 (x.core.r 4),.int .i64 (x.core.r 5),.int .i64 (x.core.r 6),.int .i64 (x.core.r 7),.int .i64 0,.int .i64 0,.bool x.fired,.int .i64 0,.slice none 0 0] (W0.alloc (.cells #[.int .i64 x.st,.int .i64 x.core.pc,.int .i64 (x.core.r 0),.int .i64 (x.core.r 1),.int .i64 (x.core.r 2),.int .i64 (x.core.r 3),.int .i64 (x.core.r 4),.int .i64 (x.core.r 5),.int .i64 (x.core.r 6),.int .i64 (x.core.r 7),.int .i64 0,.int .i64 0,.bool x.fired,.int .i64 0,.slice none 0 0] 115)).drew):=hd (by
  have bu:=CF.out;refine ⟨aae W0 _, ?_,(ai.alloc ai.size _).drew,by omega⟩
  exact ((aA W0 _).block _ (by omega)).trans kQ)
 clear h hs hc hp nP;unfold z72 at aD;go_enter func106,ntmps106;go_upto_region 1 with fail;rw [aD.out];go_cut [3] (fun v3 wy=>∃G,v3=.pointer (some ⟨G,0,none⟩)/\Hid (tf w G #[.int .i64 x.st,.int .i64 x.core.pc,.int .i64 (x.core.r 0),.int .i64 (x.core.r 1),.int .i64 (x.core.r 2),.int .i64 (x.core.r 3),.int .i64 (x.core.r 4),.int .i64 (x.core.r 5),.int .i64 (x.core.r 6),.int .i64 (x.core.r 7),.int .i64 0,.int .i64 0,.bool x.fired,.int .i64 0,.slice none 0 0] wy))
 case first=>
  go_region_held3 (fun w'=>w'.cell? ⟨l.bq p,3,none⟩=some (.int .i64 x.st)/\w'.cell? ⟨l.bq p,4,none⟩=some (.int .i64 x.core.pc)/\w'.cell? ⟨l.bq p,5,none⟩=some (.int .i64 (x.core.r 0))/\w'.cell? ⟨l.bq p,6,none⟩=some (.int .i64 (x.core.r 1))/\w'.cell? ⟨l.bq p,7,none⟩=some (.int .i64 (x.core.r 2))/\w'.cell? ⟨l.bq p,8,none⟩=some (.int .i64 (x.core.r 3))/\w'.cell? ⟨l.bq p,9,none⟩=some (.int .i64 (x.core.r 4))/\w'.cell? ⟨l.bq p,10,none⟩=some (.int .i64 (x.core.r 5))/\w'.cell? ⟨l.bq p,11,none⟩=some (.int .i64 (x.core.r 6))/\w'.cell? ⟨l.bq p,12,none⟩=some (.int .i64 (x.core.r 7))/\w'.cell? ⟨l.bq p,13,none⟩=some (.bool x.fired)) (go_keep) (fail);go_wp2_with fail;go_meet
  case rel=>exact ⟨_,rfl,lC⟩
 case rest=>
  obtain ⟨G,rfl,HX⟩:=hcut;clear lC Er aD CF kQ c0 c1 c2 c3 c4 c5 c6 c7 c8 c9 lV lW lX j_ kM fr ai;have k1:=HK.out.below HX.out.au;have x1:=(k1.dS HP.out).c1;have n7:=(k1.vH HA.out).2.2.2.2.2.2.1;have qy:=Un k1.drew HC.out HP.out;obtain ⟨F,L,hW,hL,-,-⟩:=k1.drew.dU HA.out;have kA:=(HS.out.vG p HP.out);have wI:=U9 hL hW.good (HC.out.mem HP.out) kA.1.1 kA.2.1;have Cy:=HC.out.k_;have Ex:=HP.out;have Dj:=aZ.Uk hW (id:=2*(p:Int)) ⟨by omega,by omega⟩;rw [wI.1,hx.out]at Dj;generalize (aZ.qP (2*(p:Int)) L).2=q2 at*
  have nY:Hid (∀W,Below wc.drew.heap.size wc.drew W->tf w G #[.int .i64 x.st,.int .i64 x.core.pc,.int .i64 (x.core.r 0),.int .i64 (x.core.r 1),.int .i64 (x.core.r 2),.int .i64 (x.core.r 3),.int .i64 (x.core.r 4),.int .i64 (x.core.r 5),.int .i64 (x.core.r 6),.int .i64 (x.core.r 7),.int .i64 0,.int .i64 0,.bool x.fired,.int .i64 0,.slice none 0 0] W):=hd (fun W hb=>HX.out.on (cC hb));clear k1 hW hL wI kA HX Ex;go_upto_region 2 with fail;go_cut [23] (fun v23 wy=>Hid (tf w G #[.int .i64 x.st,.int .i64 x.core.pc,.int .i64 (x.core.r 0),.int .i64 (x.core.r 1),.int .i64 (x.core.r 2),.int .i64 (x.core.r 3),.int .i64 (x.core.r 4),.int .i64 (x.core.r 5),.int .i64 (x.core.r 6),.int .i64 (x.core.r 7),.int .i64 0,.int .i64 x.timer,.bool x.fired,.int .i64 0,.slice none 0 0] wy))
  case first=>
   go_region_law (first
    |(go_simp;(with_reducible refine qy.mono ?_);rintro e w1 ⟨rfl,rfl⟩)
    |(go_simp;(with_reducible refine Dj.mono ?_);rintro e w2 ⟨rfl,b2⟩;have qA:=nY.out w2 b2;have u11:=aaa w2 G 11 _ _ _ qA.box;have uf:∀j,w2.frozen? ⟨G,j,none⟩=false:=(fun j=>by simp [World.frozen?,qA.box]);have zg:=hd (qA.put 11 (.int .i64 x.timer));clear qA))
   all_goals (
    go_wp2_with fail;go_meet
    case rel=>exact zg)
  case rest=>
   have HX:=hcut;clear hcut nY Dj qy x1 n7;have k1:=HK.out.below HX.out.au;have x1:=(k1.dS HP.out).c1;have n7:=(k1.vH HA.out).2.2.2.2.2.2.1;have qy:=Nq k1.drew HC.out HP.out;obtain ⟨F,L,hW,hL,-,-⟩:=k1.drew.dU HA.out;have kA:=(HS.out.vG p HP.out);have wI:=U9 hL hW.good (HC.out.mem HP.out) kA.1.1 kA.2.1;have Ex:=HP.out;have Dj:=aZ.Uk hW (id:=2*(p:Int)+1) ⟨by omega,by omega⟩;rw [wI.2,hx.out]at Dj;generalize (aZ.qP (2*(p:Int)+1) L).2=q3 at*
   have nY:Hid (∀W,Below wc.drew.heap.size wc.drew W->tf w G #[.int .i64 x.st,.int .i64 x.core.pc,.int .i64 (x.core.r 0),.int .i64 (x.core.r 1),.int .i64 (x.core.r 2),.int .i64 (x.core.r 3),.int .i64 (x.core.r 4),.int .i64 (x.core.r 5),.int .i64 (x.core.r 6),.int .i64 (x.core.r 7),.int .i64 0,.int .i64 x.timer,.bool x.fired,.int .i64 0,.slice none 0 0] W):=hd (fun W hb=>HX.out.on (cC hb));clear k1 hW hL wI kA HX Ex;go_upto_region 3 with fail;go_cut [37] (fun v37 wy=>Hid (tf w G #[.int .i64 x.st,.int .i64 x.core.pc,.int .i64 (x.core.r 0),.int .i64 (x.core.r 1),.int .i64 (x.core.r 2),.int .i64 (x.core.r 3),.int .i64 (x.core.r 4),.int .i64 (x.core.r 5),.int .i64 (x.core.r 6),.int .i64 (x.core.r 7),.int .i64 0,.int .i64 x.timer,.bool x.fired,.int .i64 x.bE,.slice none 0 0] wy))
   case first=>
    go_region_law (first
     |(go_simp;(with_reducible refine qy.mono ?_);rintro e w1 ⟨rfl,rfl⟩)
     |(go_simp;(with_reducible refine Dj.mono ?_);rintro e w2 ⟨rfl,b2⟩;have qA:=nY.out w2 b2;have u13:=aaa w2 G 13 _ _ _ qA.box;have uf:∀j,w2.frozen? ⟨G,j,none⟩=false:=(fun j=>by simp [World.frozen?,qA.box]);have zg:=hd (qA.put 13 (.int .i64 x.bE));clear qA))
    all_goals (
     go_wp2_with fail;go_meet
     case rel=>exact zg)
   case rest=>
    have HX:=hcut;clear hcut nY Dj qy x1 n7;have k1:=HK.out.below HX.out.au;have Ih:=(k1.dS HP.out).kM;obtain ⟨F,hF,-⟩:=k1.jQ HP.out;have aJ:=aL.pstate_any hF (HS.out.ls HP.out).good (aai ((HS.out.ls HP.out).Li HC.out) (by decide));rw [hx.out]at aJ;have nY:Hid (∀W,Below wc.heap.size wc W->tf w G #[.int .i64 x.st,.int .i64 x.core.pc,.int .i64 (x.core.r 0),.int .i64 (x.core.r 1),.int .i64 (x.core.r 2),.int .i64 (x.core.r 3),.int .i64 (x.core.r 4),.int .i64 (x.core.r 5),.int .i64 (x.core.r 6),.int .i64 (x.core.r 7),.int .i64 0,.int .i64 x.timer,.bool x.fired,.int .i64 x.bE,.slice none 0 0] W):=hd (fun W hb=>HX.out.on hb);have iO:Hid (Below w.heap.size w wc):=hd HX.out.au;have qz:=hd (aab.1 HX.out.box).1;clear k1 hF HX;go_upto_region 5 with(go_at_call 125;refine aJ.mono ?_;rintro e w2 ⟨la,lc,ls,rfl,hT,Iu⟩;have qA:=nY.out w2 hT.au;have u10:=aaa w2 G 10 _ _ _ qA.box;have u14:=aaa w2 G 14 _ _ _ qA.box;have uf:∀j,w2.frozen? ⟨G,j,none⟩=false:=(fun j=>by simp [World.frozen?,qA.box]);have zg:=hd ((qA.put 14 (.slice la x.ss.length lc)).put 10 (.int .i64 (x.lc:Int)));clear qA;replace hT:=hd hT;replace Iu:=hd Iu);obtain ⟨V,hV⟩:=Haa ((w2.setCell ⟨G,14,none⟩ (.slice la x.ss.length lc)).setCell ⟨G,10,none⟩ (.int .i64 (x.lc:Int)));rw [hV.out]at zg⊢;have ER:Mod (fun k=>k=G) w2 V:=by rw [<-hV.out];exact dz (dP _ _ _ _) _ _
    have gy:V.heap[G]?=some (.cells #[.int .i64 x.st,.int .i64 x.core.pc,.int .i64 (x.core.r 0),.int .i64 (x.core.r 1),.int .i64 (x.core.r 2),.int .i64 (x.core.r 3),.int .i64 (x.core.r 4),.int .i64 (x.core.r 5),.int .i64 (x.core.r 6),.int .i64 (x.core.r 7),.int .i64 (x.lc:Int),.int .i64 x.timer,.bool x.fired,.int .i64 x.bE,.slice la x.ss.length lc] 115 (0,0)):=by
     have h1:=zg.out.box;simp only [List.setIfInBounds_toArray,List.set_cons_succ,List.set_cons_zero]at h1;exact h1
    have dN:=zg.out.res;have Ra:=hd zg.out.gt
    have HO:Hid (Q (.returned (.agg #[.int .i64 x.st,.int .i64 x.core.pc,.int .i64 (x.core.r 0),.int .i64 (x.core.r 1),.int .i64 (x.core.r 2),.int .i64 (x.core.r 3),.int .i64 (x.core.r 4),.int .i64 (x.core.r 5),.int .i64 (x.core.r 6),.int .i64 (x.core.r 7),.int .i64 (x.lc:Int),.int .i64 x.timer,.bool x.fired,.int .i64 x.bE,.slice la x.ss.length lc])) (((((((((((((((V.setCell ⟨w.heap.size,0,none⟩ (.int .i64 x.st)).setCell ⟨w.heap.size,1,none⟩ (.int .i64 x.core.pc)).setCell ⟨w.heap.size,2,none⟩ (.int .i64 (x.core.r 0))).setCell ⟨w.heap.size,3,none⟩ (.int .i64 (x.core.r 1))).setCell ⟨w.heap.size,4,none⟩ (.int .i64 (x.core.r 2))).setCell ⟨w.heap.size,5,none⟩ (.int .i64 (x.core.r 3))).setCell ⟨w.heap.size,6,none⟩ (.int .i64 (x.core.r 4))).setCell ⟨w.heap.size,7,none⟩ (.int .i64 (x.core.r 5))).setCell ⟨w.heap.size,8,none⟩ (.int .i64 (x.core.r 6))).setCell ⟨w.heap.size,9,none⟩ (.int .i64 (x.core.r 7))).setCell ⟨w.heap.size,10,none⟩ (.int .i64 (x.lc:Int))).setCell ⟨w.heap.size,11,none⟩ (.int .i64 x.timer)).setCell ⟨w.heap.size,12,none⟩ (.bool x.fired)).setCell ⟨w.heap.size,13,none⟩ (.int .i64 x.bE)).setCell ⟨w.heap.size,14,none⟩ (.slice la x.ss.length lc))):=hd (by
     rw [<-hQ.out];have EN:=ff_mod V w.heap.size (.int .i64 x.st) (.int .i64 x.core.pc) (.int .i64 (x.core.r 0)) (.int .i64 (x.core.r 1)) (.int .i64 (x.core.r 2)) (.int .i64 (x.core.r 3)) (.int .i64 (x.core.r 4)) (.int .i64 (x.core.r 5)) (.int .i64 (x.core.r 6)) (.int .i64 (x.core.r 7)) (.int .i64 (x.lc:Int)) (.int .i64 x.timer) (.bool x.fired) (.int .i64 x.bE) (.slice la x.ss.length lc);have hcs:=iO.out.size;have mT:=hT.out.au.size;have Hp:=qz.out;have yw:=Ra.out;have rJ:Mod (fun k=>k=G\/k=w.heap.size) w2 _:=(ER.mono (fun k _ e=> .inl e)).trans (EN.mono (fun k _ e=> .inr e):Mod (fun k=>k=G\/k=w.heap.size) _ _) (fun k hk=> .inl hk);have hlen:=Iu.out.1;have dH:=hT.out.ge;have Y9:=hT.out.at'.ge;have AD:=hT.out.at'.lt;have Iq:=hT.out.row.lt;have cD:=rJ.size;refine ⟨⟨x,la,lc,ls⟩,fun k=>ae la=some k\/∃i,i<ls.length/\aL.tb (aL.ay ls i) k,rfl,hx.out▸rfl,⟨?_, ?_,Iu.out, ?_, ?_,fun k hk=> .inl hk,fun i hi k hk=> .inr ⟨i,hi,hk⟩,fun k hk=>(dH k hk).2⟩, ?_⟩
     ·exact hT.out.row.mod rJ (fun k hk e=>by have:=(dH k hk).1;rcases e with e|e<;>omega)
     ·have h1:=hT.out.at'.mod rJ (fun i hi k hk e=>by have:=Y9 i hi k hk;rcases e with e|e<;>omega);exact ⟨h1.r1,h1.r2,h1.ne,fun i hi k hk=>aai hcs (h1.ge i hi k hk),h1.ap⟩
     ·rintro k (hk|⟨i,hi,hk⟩)
      ·have:=(dH k hk).1;omega
      ·have:=Y9 i hi k hk;omega
     ·rintro k (hk|⟨i,hi,hk⟩)
      ·have:=Iq k hk;omega
      ·have:=AD i hi k hk;omega
     ·exact ((Mod.aS (fun _=>False) (iO.out.trans (hT.out.au.mono hcs))).trans rJ (fun k hk=> .inr (by rcases hk with e|e<;>omega))).below (aag _) (fun k _ hk=>hk.elim))
    have v0:=aaa V G 0 _ _ _ gy;have v1:=aaa V G 1 _ _ _ gy;have v2:=aaa V G 2 _ _ _ gy;have v3:=aaa V G 3 _ _ _ gy;have v4:=aaa V G 4 _ _ _ gy;have v5:=aaa V G 5 _ _ _ gy;have v6:=aaa V G 6 _ _ _ gy;have v7:=aaa V G 7 _ _ _ gy;have v8:=aaa V G 8 _ _ _ gy;have v9:=aaa V G 9 _ _ _ gy;have v10:=aaa V G 10 _ _ _ gy;have v11:=aaa V G 11 _ _ _ gy;have v12:=aaa V G 12 _ _ _ gy;have v13:=aaa V G 13 _ _ _ gy;have v14:=aaa V G 14 _ _ _ gy;unfold z72 at dN;have z0:=aaa V w.heap.size 0 _ _ _ dN;have z1:=aaa V w.heap.size 1 _ _ _ dN;have z2:=aaa V w.heap.size 2 _ _ _ dN;have z3:=aaa V w.heap.size 3 _ _ _ dN;have z4:=aaa V w.heap.size 4 _ _ _ dN;have z5:=aaa V w.heap.size 5 _ _ _ dN;have z6:=aaa V w.heap.size 6 _ _ _ dN;have z7:=aaa V w.heap.size 7 _ _ _ dN;have z8:=aaa V w.heap.size 8 _ _ _ dN;have z9:=aaa V w.heap.size 9 _ _ _ dN;have Lz:=aaa V w.heap.size 10 _ _ _ dN;have LA:=aaa V w.heap.size 11 _ _ _ dN;have z12:=aaa V w.heap.size 12 _ _ _ dN;have LC:=aaa V w.heap.size 13 _ _ _ dN;have LD:=aaa V w.heap.size 14 _ _ _ dN;have zf:∀j,V.frozen? ⟨w.heap.size,j,none⟩=false:=fun j=>by simp [World.frozen?,dN]
    have kg:=hd (ff_cells dN (.int .i64 x.st) (.int .i64 x.core.pc) (.int .i64 (x.core.r 0)) (.int .i64 (x.core.r 1)) (.int .i64 (x.core.r 2)) (.int .i64 (x.core.r 3)) (.int .i64 (x.core.r 4)) (.int .i64 (x.core.r 5)) (.int .i64 (x.core.r 6)) (.int .i64 (x.core.r 7)) (.int .i64 (x.lc:Int)) (.int .i64 x.timer) (.bool x.fired) (.int .i64 x.bE) (.slice la x.ss.length lc));clear hV ER gy dN u10 u14 uf zg hT Iu nY aJ Ih iO qz Ra;go_wp2_with fail;refine aar (v:=.agg #[.int .i64 x.st,.int .i64 x.core.pc,.int .i64 (x.core.r 0),.int .i64 (x.core.r 1),.int .i64 (x.core.r 2),.int .i64 (x.core.r 3),.int .i64 (x.core.r 4),.int .i64 (x.core.r 5),.int .i64 (x.core.r 6),.int .i64 (x.core.r 7),.int .i64 (x.lc:Int),.int .i64 x.timer,.bool x.fired,.int .i64 x.bE,.slice la x.ss.length lc]) ?_ rfl HO.out;have y0:=aaa _ w.heap.size 0 _ _ _ kg.out;have y1:=aaa _ w.heap.size 1 _ _ _ kg.out;have y2:=aaa _ w.heap.size 2 _ _ _ kg.out;have y3:=aaa _ w.heap.size 3 _ _ _ kg.out;have y4:=aaa _ w.heap.size 4 _ _ _ kg.out;have y5:=aaa _ w.heap.size 5 _ _ _ kg.out;have y6:=aaa _ w.heap.size 6 _ _ _ kg.out;have y7:=aaa _ w.heap.size 7 _ _ _ kg.out;have y8:=aaa _ w.heap.size 8 _ _ _ kg.out;have y9:=aaa _ w.heap.size 9 _ _ _ kg.out;have jR:=aaa _ w.heap.size 10 _ _ _ kg.out;have jB:=aaa _ w.heap.size 11 _ _ _ kg.out;have iW:=aaa _ w.heap.size 12 _ _ _ kg.out;have iB:=aaa _ w.heap.size 13 _ _ _ kg.out;have gN:=aaa _ w.heap.size 14 _ _ _ kg.out;clear HO kg v0 v1 v2 v3 v4 v5 v6 v7 v8 v9 v10 v11 v12 v13 v14 z0 z1 z2 z3 z4 z5 z6 z7 z8 z9 Lz LA z12 LC LD zf;generalize World.setCell _ _ _=Wf at*
    simp at y0 y1 y2 y3 y4 y5 y6 y7 y8 y9 jR jB iW iB gN;simp [results,results106,go_sem,y0,y1,y2,y3,y4,y5,y6,y7,y8,y9,jR,jB,iW,iB,gN]
end
inductive jS where
 |pt (t:iM):jS
 |pr (t:iN):jS
instance:Inhabited jS:=⟨.pt default⟩
def tZ(B:Nat)(w:World)(F:Nat->Prop):jS->Prop
 | .pt t=>tL B w t F
 | .pr t=>tM B w t F
variable{B G n c n2 d:Nat}{w w' w1 wr w2:World}{F S:Nat->Prop}{tick:Int}{a b:Option Addr}
theorem tZ.mod{t:jS}(h:tZ B w F t)(hm:Mod S w w')(hn:∀k,F k->¬S k):tZ B w' F t:=by
 cases t with
 |pt t=>exact tL.mod h hm hn
 |pr t=>exact tM.mod h hm hn
theorem tZ.ge{t:jS}(h:tZ B w F t):∀k,F k->B<=k:=by
 cases t with
 |pt t=>exact tL.ge h
 |pr t=>exact tM.ge h
theorem tZ.lt{t:jS}(h:tZ B w F t):∀k,F k->k<w.heap.size:=by
 cases t with
 |pt t=>exact tL.lt h
 |pr t=>exact tM.lt h
theorem tZ.mono{B':Nat}{t:jS}(h:tZ B w F t)(hb:B'<=B):tZ B' w F t:=by
 cases t with
 |pt t=>
  have h':tL B w t F:=h;exact ⟨h'.log,h'.own,⟨h'.ql.row,h'.ql.qs,fun k hk=>aai hb (h'.ql.nb k hk),fun i a b k hk=>⟨aai hb (h'.ql.qb i a b k hk).1,(h'.ql.qb i a b k hk).2⟩,h'.ql.qq⟩,h'.qs,fun k hk=>aai hb (h'.ge k hk),h'.lt,h'.fl,h'.fo,h'.fq,h'.Q5,h'.Q6⟩
 |pr t=>
  have h':tM B w t F:=h;exact ⟨h'.row,⟨h'.at'.r1,h'.at'.r2,h'.at'.ne,fun i hi k hk=>aai hb (h'.at'.ge i hi k hk),h'.at'.ap⟩,h'.tells,fun k hk=>aai hb (h'.ge k hk),h'.lt,h'.fa,h'.ft,h'.ap⟩
structure uG(B:Nat)(w:World)(ts:List jS)(Fs:Nat->Nat->Prop):Prop where
 at':∀i,i<ts.length->tZ B w (Fs i) (ts.getD i default)
 ap:∀i j,i<ts.length->j<ts.length->i≠j->∀k,Fs i k->¬Fs j k
theorem uG.nil(B:Nat)(w:World)(Fs:Nat->Nat->Prop):uG B w [] Fs:=⟨fun i hi=>absurd hi (aao i),fun i _ hi=>absurd hi (aao i)⟩
theorem uG.mod{ts:List jS}{Fs:Nat->Nat->Prop}(h:uG B w ts Fs)(hm:Mod S w w')(hn:∀i,i<ts.length->∀k,Fs i k->¬S k):uG B w' ts Fs:=⟨fun i hi=>(h.at' i hi).mod hm (hn i hi),h.ap⟩
theorem uG.push{ts:List jS}{Fs:Nat->Nat->Prop}(h:uG B w ts Fs)(hb:Below w.heap.size w w1)(hB:B<=w.heap.size){t:jS}(ht:tZ w.heap.size w1 F t):uG B w1 (ts++[t]) (fun i k=>if i=ts.length then F k else Fs i k):=by
 have h1:=h.mod (Mod.aS (fun _=>False) hb) (fun _ _ _ _ h=>h);refine ⟨fun i hi=> ?_,fun i j hi hj iI k hk bk=> ?_⟩
 ·by_cases e:i=ts.length
  ·subst e;simp only [if_true];rw [aac,aan (aag _)];simp only [Nat.sub_self];exact ht.mono hB
  ·simp only [if_neg e];have gj:i<ts.length:=by simp at hi;omega
   rw [aac,aaE gj,<-aac];exact h1.at' i gj
 ·simp only [List.length_append,List.length_cons,List.length_nil]at hi hj;by_cases e:i=ts.length
  ·rw [aah e]at hk;rw [aaf (by omega)]at bk;have g1:=ht.ge k hk;have g2:=(h.at' j (by omega)).lt k bk;omega
  ·rw [aaf e]at hk;by_cases e2:j=ts.length
   ·rw [aah e2]at bk;have g1:=ht.ge k bk;have g2:=(h.at' i (by omega)).lt k hk;omega
   ·rw [aaf e2]at bk;exact h.ap i j (by omega) (by omega) iI k hk bk
def uR(ps:List iM):List Value:=ps.flatMap lh
def uS(qs:List iN):List Value:=qs.flatMap lz
theorem U_(t:iM):∀u∈lh t,u.oneCell'=true:=by
 intro u hu;simp only [lh,List.mem_cons,List.not_mem_nil,or_false]at hu;rcases hu with rfl|rfl|rfl|rfl|rfl|rfl<;>rfl
theorem Vc(t:iN):∀u∈lz t,u.oneCell'=true:=by
 intro u hu;simp only [lz,List.mem_cons,List.not_mem_nil,or_false]at hu;rcases hu with rfl|rfl|rfl|rfl|rfl|rfl|rfl|rfl|rfl|rfl|rfl|rfl|rfl|rfl|rfl<;>rfl
def z51:Array Value:=#[.int .i64 0,.slice none 0 0,.slice none 0 0]
structure SI(w wr:World)(G:Nat)(tick:Int)(ps:List iM)(a:Option Addr)(n c:Nat)(qs:List iN)(b:Option Addr)(n2 d:Nat)(Fs:Nat->Nat->Prop):Prop where
 np:ps.length=n
 nq:qs.length=n2
 box:wr.heap[G]?=some (.cells #[.int .i64 tick,.slice a n c,.slice b n2 d] 78 (0,0))
 res:wr.heap[w.heap.size]?=some (.cells z51 78 (0,0))
 rp:Row wr 109 6 a n c (uR ps)
 rq:Row wr 115 15 b n2 d (uS qs)
 pj:uG (w.heap.size+2) wr (ps.map .pt++qs.map .pr) Fs
 ag:∀k,ae a=some k->w.heap.size+2<=k/\ae b≠some k/\∀i,i<ps.length+qs.length->¬Fs i k
 bg:∀k,ae b=some k->w.heap.size+2<=k/\∀i,i<ps.length+qs.length->¬Fs i k
 gg:G=w.heap.size+1
 au:Below w.heap.size w wr
theorem Ti(ps:List iM)(qs:List iN):(ps.map jS.pt++qs.map jS.pr).length=ps.length+qs.length:=by simp
theorem SI.below{ps:List iM}{qs:List iN}{Fs:Nat->Nat->Prop}(h:SI w wr G tick ps a n c qs b n2 d Fs)(hb:Below wr.heap.size wr w1):SI w w1 G tick ps a n c qs b n2 d Fs:=
 ⟨h.np,h.nq,by rw [hb.block _ (aab.1 h.box).1];exact h.box,by rw [hb.block _ (aab.1 h.res).1];exact h.res,h.rp.below hb,h.rq.below hb,h.pj.mod (Mod.aS (fun _=>False) hb) (fun _ _ _ _ h=>h),h.ag,h.bg,h.gg,h.au.trans (hb.mono h.au.size)⟩
theorem BQ{T e:TypeId}{z:Value}{size bytes:Nat}(hu:prog.underlying T=some (.slice e))(kI:(prog.info? e).map (fun i=>(i.zero,i.size,i.bytes))=some (some z,size,bytes))(gI:z.cells.size=size)(oF:bytes<=256)
 {w:World}{a:Option Addr}{n c:Nat}{xs:List Value}(hR:Row w e size a n c xs)(hn:n<=1000000)(us:List Value)(yq:us.length=size)(h1:∀u∈us,u.oneCell'=true):
 ∃a' c' w',(∀ty,(Builtin.append_ #[T,T] ty #[.slice a n c,.slice (some ⟨w.heap.size,0,none⟩) 1 1]).run prog (w.alloc (.cells us.toArray e))=.ok (.slice a' (n+1) c') w')/\
  Row w' e size a' (n+1) c' (xs++us)/\Mod (fun k=>ae a=some k) w w'/\(∀k,ae a'=some k->ae a=some k\/w.heap.size<k):=by
 obtain ⟨i,k1,k2,k3,k4⟩:=info_parts kI;have hb:=aA w (.cells us.toArray e);have hh:=aae w (.cells us.toArray e);have hs:Src prog size T (.slice (some ⟨w.heap.size,0,none⟩) 1 1) 1 us (w.alloc (.cells us.toArray e)):=by
  refine Src.ofSlice _ hu _ _ _ _ (by omega) (fun j u hj=> ?_) h1;rw [kO,aaa _ _ _ _ _ _ hh,aaH];simpa using hj
 obtain ⟨a',c',w',m1,m2,m3,m4,_⟩:=mD (P:=prog) _ T e i _ size bytes hu k1 k2 k3 k4 gI (hR.below hb) _ 1 _ hs (by unfold maxLen;omega) (by
  have:(n+1)*bytes<=(n+1)*256:=abj _ oF
  omega)
 refine ⟨a',c',w',m1,m2,(Mod.aS _ hb).trans m3 (fun _ h=> .inl h),fun k hk=> ?_⟩;rcases m4 k hk with h|h
 ·exact .inl h
 ·exact .inr (by simp at h;omega)
theorem Jo:(prog.info? 109).map (fun i=>(i.zero,i.size,i.bytes))=some (some (.agg #[.int .i64 0,.slice none 0 0,.int .i64 0,.int .i64 0,.slice none 0 0,.slice none 0 0]),6,96):=by kernel_rfl
theorem Jc:(prog.info? 115).map (fun i=>(i.zero,i.size,i.bytes))=some (some (.agg #[.int .i64 0,.int .i64 0,.int .i64 0,.int .i64 0,.int .i64 0,.int .i64 0,.int .i64 0,.int .i64 0,.int .i64 0,.int .i64 0,.int .i64 0,.int .i64 0,.bool false,.int .i64 0,.slice none 0 0]),15,136):=by kernel_rfl
theorem SI.Wi{ps:List iM}{Fs:Nat->Nat->Prop}(h:SI w wr G tick ps a n c [] none 0 0 Fs)(hb:Below wr.heap.size wr w1){t:iM}(ht:tL wr.heap.size w1 t F){a':Option Addr}{c':Nat}
 (hR:Row w2 109 6 a' (n+1) c' (uR ps++lh t))(hm:Mod (fun k=>ae a=some k) w1 w2)(hn:∀k,ae a'=some k->ae a=some k\/w1.heap.size<k):∃bG,SI w (w2.setCell ⟨G,1,none⟩ (.slice a' (n+1) c')) G tick (ps++[t]) a' (n+1) c' [] none 0 0 bG:=by
 have h1:=h.below hb;have hB:w.heap.size+2<=wr.heap.size:=by
  have:=(aab.1 h.box).1;have:=h.gg;omega
 have GL:=h.pj.push hb hB (t:=.pt t) (F:=F) ht;simp only [List.map_nil,List.append_nil]at GL;have ia:Mod (fun k=>k=G) w2 (w2.setCell ⟨G,1,none⟩ (.slice a' (n+1) c')):=dP _ _ _ _;have vJ:=h.ag;have ES:=h.gg;have gi:=hb.size;have qz:=(aab.1 h1.box).1;have GM:∀k,ae a'=some k->w.heap.size+2<=k/\(k<wr.heap.size->ae a=some k):=fun k hk=>by
  rcases hn k hk with e|e
  ·exact ⟨(vJ k e).1,fun _=>e⟩
  ·exact ⟨by omega,fun _=>by omega⟩
 have Bd:∀i,i<ps.length+1->∀k,(if i=ps.length then F k else Fs i k)->w.heap.size+2<=k/\k<w1.heap.size/\ae a≠some k:=fun i hi k hk=>by
  by_cases e:i=ps.length
  ·rw [aah e]at hk;have g1:=ht.ge k hk;have g2:=ht.lt k hk;exact ⟨by omega,g2,fun ea=>by have:=h.rp.lt k ea;omega⟩
  ·rw [aaf e]at hk;have gj:i<(ps.map jS.pt++([]:List iN).map jS.pr).length:=by simp;omega
   have g1:=(h.pj.at' i gj).ge k hk;have g2:=(h.pj.at' i gj).lt k hk;exact ⟨g1,by omega,fun ea=>(vJ k ea).2.2 i (by simp;omega) hk⟩
 refine ⟨fun i k=>if i=(ps.map jS.pt).length then F k else Fs i k,⟨by simp [h.np],rfl, ?_, ?_, ?_,Row.nil, ?_,fun k hk=>⟨(GM k hk).1,fun e=>(by cases e),fun i hi hf=> ?_⟩,fun k hk=>(by cases hk),h.gg, ?_⟩⟩
 ·have e1:w2.heap[G]?=_:=(hm.block G qz (fun e=>by have:=(vJ G e).1;omega)).trans h1.box;rw [aU e1];rfl
 ·rw [ia.block _ (by have:=hm.size;omega) (by omega),hm.block _ (by omega) (fun e=>by have:=(vJ _ e).1;omega)];exact h1.res
 ·have e2:uR (ps++[t])=uR ps++lh t:=by simp [uR]
  rw [e2];exact hR.mod ia (fun k hk e=>by have:=(GM k hk).1;omega)
 ·simp only [List.map_append,List.map_cons,List.map_nil,List.append_nil];have hl:(List.map jS.pt ps).length=ps.length:=by simp
  refine (GL.mod hm (fun i hi k hk=> ?_)).mod ia (fun i hi k hk e=> ?_)
  ·simp only [List.length_append,List.length_cons,List.length_nil,hl]at hi hk;exact (Bd i (by omega) k hk).2.2
  ·simp only [List.length_append,List.length_cons,List.length_nil,hl]at hi hk;have:=(Bd i (by omega) k hk).1;omega
 ·have hl:(List.map jS.pt ps).length=ps.length:=by simp
  rw [hl]at hf;simp only [List.length_append,List.length_cons,List.length_nil]at hi;have g:=Bd i (by omega) k hf;rcases hn k hk with e|e
  ·exact g.2.2 e
  ·omega
 ·have aj:=h1.au
  exact ((Mod.aS (fun _=>False) aj).trans ((hm.mono (fun k _ e=> .inl e)).trans (ia.mono (fun k _ e=> .inr e):Mod (fun k=>ae a=some k\/k=G) _ _) (fun k hk=> .inl hk)) (fun k hk=> .inr (by
   rcases hk with e|e
   ·have:=(vJ k e).1;omega
   ·omega))).below (aag _) (fun k _ hk=>hk.elim)
theorem SI.D2{ps:List iM}{qs:List iN}{Fs:Nat->Nat->Prop}(h:SI w wr G tick ps a n c qs b n2 d Fs)(hb:Below wr.heap.size wr w1){t:iN}(ht:tM wr.heap.size w1 t F){b':Option Addr}{d':Nat}
 (hR:Row w2 115 15 b' (n2+1) d' (uS qs++lz t))(hm:Mod (fun k=>ae b=some k) w1 w2)(hn:∀k,ae b'=some k->ae b=some k\/w1.heap.size<k):∃bG,SI w (w2.setCell ⟨G,2,none⟩ (.slice b' (n2+1) d')) G tick ps a n c (qs++[t]) b' (n2+1) d' bG:=by
 have h1:=h.below hb;have hB:w.heap.size+2<=wr.heap.size:=by
  have:=(aab.1 h.box).1;have:=h.gg;omega
 have GL:=h.pj.push hb hB (t:=.pr t) (F:=F) ht;have ia:Mod (fun k=>k=G) w2 (w2.setCell ⟨G,2,none⟩ (.slice b' (n2+1) d')):=dP _ _ _ _;have vJ:=h.ag;have px:=h.bg;have ES:=h.gg;have gi:=hb.size;have qz:=(aab.1 h1.box).1;have hl:=Ti ps qs;have GM:∀k,ae b'=some k->w.heap.size+2<=k:=fun k hk=>by
  rcases hn k hk with e|e
  ·exact (px k e).1
  ·omega
 have Bd:∀i,i<ps.length+qs.length+1->∀k,(if i=ps.length+qs.length then F k else Fs i k)->w.heap.size+2<=k/\k<w1.heap.size/\ae b≠some k/\ae a≠some k:=fun i hi k hk=>by
  by_cases e:i=ps.length+qs.length
  ·rw [aah e]at hk;have g1:=ht.ge k hk;have g2:=ht.lt k hk;exact ⟨by omega,g2,fun ea=>by have:=h.rq.lt k ea;omega,fun ea=>by have:=h.rp.lt k ea;omega⟩
  ·rw [aaf e]at hk;have gj:i<(ps.map jS.pt++qs.map jS.pr).length:=by rw [hl];omega
   have g1:=(h.pj.at' i gj).ge k hk;have g2:=(h.pj.at' i gj).lt k hk;exact ⟨g1,by omega,fun ea=>(px k ea).2 i (by omega) hk,fun ea=>(vJ k ea).2.2 i (by omega) hk⟩
 refine ⟨fun i k=>if i=ps.length+qs.length then F k else Fs i k,⟨h.np,by simp [h.nq], ?_, ?_, ?_, ?_, ?_,fun k hk=>⟨(vJ k hk).1,fun e=> ?_,fun i hi hf=> ?_⟩,fun k hk=>⟨GM k hk,fun i hi hf=> ?_⟩,h.gg, ?_⟩⟩
 ·have e1:w2.heap[G]?=_:=(hm.block G qz (fun e=>by have:=(px G e).1;omega)).trans h1.box;rw [aU e1];rfl
 ·rw [ia.block _ (by have:=hm.size;omega) (by omega),hm.block _ (by omega) (fun e=>by have:=(px _ e).1;omega)];exact h1.res
 ·exact (h1.rp.mod hm (fun k hk=>(vJ k hk).2.1)).mod ia (fun k hk e=>by have:=(vJ k hk).1;omega)
 ·have e2:uS (qs++[t])=uS qs++lz t:=by simp [uS]
  rw [e2];exact hR.mod ia (fun k hk e=>by have:=GM k hk;omega)
 ·rw [abd,<-aaQ];rw [hl]at GL;refine (GL.mod hm (fun i hi k hk=> ?_)).mod ia (fun i hi k hk e=> ?_)
  ·rw [aal,hl]at hi;exact (Bd i (by simpa using hi) k hk).2.2.1
  ·rw [aal,hl]at hi;have:=(Bd i (by simpa using hi) k hk).1;omega
 ·rcases hn k e with e1|e1
  ·exact (vJ k hk).2.1 e1
  ·have:=h.rp.lt k hk;omega
 ·simp only [List.length_append,List.length_cons,List.length_nil]at hi;exact (Bd i (by omega) k hf).2.2.2 hk
 ·simp only [List.length_append,List.length_cons,List.length_nil]at hi;have g:=Bd i (by omega) k hf;rcases hn k hk with e|e
  ·exact g.2.2.1 e
  ·omega
 ·have aj:=h1.au
  exact ((Mod.aS (fun _=>False) aj).trans ((hm.mono (fun k _ e=> .inl e)).trans (ia.mono (fun k _ e=> .inr e):Mod (fun k=>ae b=some k\/k=G) _ _) (fun k hk=> .inl hk)) (fun k hk=> .inr (by
   rcases hk with e|e
   ·have:=(px k e).1;omega
   ·omega))).below (aag _) (fun k _ hk=>hk.elim)
structure ST(B:Nat)(w:World)(m:MS)(ps:List iM)(a:Option Addr)(c:Nat)(qs:List iN)(b:Option Addr)(d:Nat)(Fs:Nat->Nat->Prop):Prop where
 np:ps.map (·.x)=m.pt
 nq:qs.map (·.x)=m.pr
 rp:Row w 109 6 a m.pt.length c (uR ps)
 rq:Row w 115 15 b m.pr.length d (uS qs)
 pj:uG B w (ps.map .pt++qs.map .pr) Fs
 ag:∀k,ae a=some k->B<=k/\ae b≠some k/\∀i,i<ps.length+qs.length->¬Fs i k
 bg:∀k,ae b=some k->B<=k/\∀i,i<ps.length+qs.length->¬Fs i k
def xE(m:MS)(a:Option Addr)(c:Nat)(b:Option Addr)(d:Nat):Value:=.agg #[.int .i64 m.tick,.slice a m.pt.length c,.slice b m.pr.length d]
def Cp(w:World)(m:MS)(E:Ending)(w':World):Prop:=∃ps a c qs b d Fs,E=.returned (xE m a c b d)/\ST w.heap.size w' m ps a c qs b d Fs/\Below w.heap.size w w'
section
variable{w w':World} {l:Lay} {m:MS} {U:Nat->Prop} {p q i j:Nat}
theorem state_m(h:Mk w l U m)(hs:aG l.c m)(hc:dK l.c):Calls prog 74 #[.pointer (some ⟨l.bm,0,none⟩)] w (Cp w m):=by
 have HK:=hd h;have HS:=hd hs;have HC:=hd hc;obtain ⟨Q,hQ⟩:=Haa (Cp w m);rw [hQ.out];have ai:=aA w (.cells z51 78);have m9:=(h.below ai).sU.2.2.2.2.1
 have lC:Hid (SI w ((w.alloc (.cells z51 78)).alloc (.cells #[.int .i64 m.tick,.slice none 0 0,.slice none 0 0] 78)) (w.heap.size+1) m.tick [] none 0 0 [] none 0 0 (fun _ _=>False)):=hd (by
  have e:(w.alloc (.cells z51 78)).heap.size=w.heap.size+1:=by simp
  refine ⟨rfl,rfl, ?_, ?_,Row.nil,Row.nil,uG.nil _ _ _,fun k hk=>(by cases hk),fun k hk=>(by cases hk),rfl,ai.alloc ai.size _⟩
  ·have:=aae (w.alloc (.cells z51 78)) (.cells #[.int .i64 m.tick,.slice none 0 0,.slice none 0 0] 78);rw [e]at this;exact this
  ·rw [(aA (w.alloc (.cells z51 78)) _).block _ (by omega)]
   exact aae w _)
 obtain ⟨T,hT⟩:=Haa m.tick;obtain ⟨np,dI⟩:=Haa l.c.labels.length;obtain ⟨nq,dV⟩:=Haa l.c.procs.length;have Xk:np<=8:=by rw [<-dI.out];exact hc.n8
 have Wj:nq<=32:=by rw [<-dV.out];exact hc.k_
 rw [hT.out]at m9 lC;unfold z51 at m9 lC;clear h hs hc ai;go_enter func74,ntmps74;go_upto_region 2 with fail;obtain ⟨W,hW⟩:=Haa ((w.alloc (.cells #[.int .i64 0,.slice none 0 0,.slice none 0 0] 78)).alloc (.cells #[.int .i64 T,.slice none 0 0,.slice none 0 0] 78));obtain ⟨G,hG⟩:=Haa (w.heap.size+1);rw [hW.out]at lC⊢;rw [hG.out]at lC⊢;clear hW m9;have k0:=HK.out.below lC.out.au;have m10:=k0.sU.2.2.2.2.2.1;rw [dI.out]at m10;obtain ⟨ap,aO⟩:=Haa l.ap;rw [aO.out]at m10;have vD:Hid (∃ps Fs,SI w W G T ps none 0 0 [] none 0 0 Fs/\ps.map (·.x)=m.pt.take 0):=hd ⟨[],_,lC.out,by simp⟩;clear k0 lC;go_wp2_with fail;go_loopg [18] np (fun k v18 wr=>∃(j:Nat),v18=.int .i64 (j:Int)/\j+k=np/\Hid (∃ps a c Fs,SI w wr G T ps a j c [] none 0 0 Fs/\ps.map (·.x)=m.pt.take j))
 case atStart=>exact ⟨0,rfl,by omega,hd (by obtain ⟨ps,Fs,h1,h2⟩:=vD.out;exact ⟨ps,none,0,Fs,h1,h2⟩)⟩
 case round=>
  obtain ⟨j,rfl,ug,HH⟩:=hrel;clear vD m10;obtain ⟨ps,a,c,Fs,hI,zh⟩:=HH.out;clear HH;by_cases af:j<np
  ·have fI:(j:Int)<(np:Int):=by omega
   have jG:j<l.c.labels.length:=by rw [dI.out];exact af
   have k1:=HK.out.below hI.au;obtain ⟨g,ag,cg⟩:=k1.UW jG;obtain rfl:ap=some ⟨g,0,none⟩:=aO.out.symm.trans ag;have aJ:=pstand_m k1.drew HS.out HC.out jG;have x1:wr.cell? ⟨G,1,none⟩=some (.slice a j c):=aaa wr G 1 _ _ _ hI.box
   have HN:Hid (∀e w1,OO wr.drew (aM m j) e w1->∃(t:iM) (a':Option Addr) (c':Nat) (w2:World),e=.returned (.agg #[.int .i64 (t.x.cur:Int),.slice t.la t.x.log.length t.lc,.int .i64 t.x.lost,.int .i64 t.x.fC,.slice t.oa t.x.os.length t.oc,.slice t.qa t.x.os.length t.qc])/\(∀W,Below w1.heap.size w1 W->W.cell? ⟨G,1,none⟩=some (.slice a j c))/\
    (∀ty,(Builtin.append_ #[75,75] ty #[.slice a j c,.slice (some ⟨w1.heap.size,0,none⟩) 1 1]).run prog (w1.alloc (.cells #[.int .i64 (t.x.cur:Int),.slice t.la t.x.log.length t.lc,.int .i64 t.x.lost,.int .i64 t.x.fC,.slice t.oa t.x.os.length t.oc,.slice t.qa t.x.os.length t.qc] 109))=.ok (.slice a' (j+1) c') w2)/\(∃u,w2.cell? ⟨G,1,none⟩=some u)/\w2.frozen? ⟨G,1,none⟩=false/\
    Hid (∃ps Fs,SI w (w2.setCell ⟨G,1,none⟩ (.slice a' (j+1) c')) G T ps a' (j+1) c' [] none 0 0 Fs/\ps.map (·.x)=m.pt.take (j+1))):=hd (fun e w1 he=>by
    obtain ⟨t,F,rfl,lY,qx,hb⟩:=he;have eW:=cC hb;have h1:=hI.below eW;obtain ⟨a',c',w2,q1,q2,q3,q4⟩:=BQ (T:=75) underlying75 Jo rfl (by omega) h1.rp (by omega) (lh t) rfl (U_ t);have qz:=(aab.1 h1.box).1;have zi:ae a≠some G:=fun e=>by have:=(hI.ag G e).1;have:=hI.gg;omega
    have sN:w2.heap[G]?=w1.heap[G]?:=q3.block _ qz zi;refine ⟨t,a',c',w2,rfl,fun W hW=> ?_,q1,⟨_,(aa1 (w:=w1) sN).trans (aaa w1 G 1 _ _ _ h1.box)⟩,(aby (w:=w1) sN).trans (by simp [World.frozen?,h1.box]),hd ?_⟩
    ·have:=(h1.below hW).box;exact aaa W G 1 _ _ _ this
    ·obtain ⟨bG,h2⟩:=hI.Wi eW (t:=t) (F:=F) qx q2 q3 q4;refine ⟨_,bG,h2, ?_⟩;rw [abd,zh,zI m.pt j default (by rw [HS.out.np];exact jG)];simp only [List.map_cons,List.map_nil,lY]
     rfl)
   clear hI k1 ag jG;go_upto_region 5 with fail
   go_region_law (first
    |(go_simp;(with_reducible refine aJ.mono ?_);rintro e w1 he;obtain ⟨t,a',c',w2,rfl,y1,y2,⟨yu,y3⟩,y4,HY⟩:=HN.out e w1 he;have y0:=y1 w1 (aak _ _);have yA:∀ob,(w1.alloc ob).cell? ⟨G,1,none⟩=some (.slice a j c):=(fun ob=>y1 _ (aA w1 ob));replace y2:=hd y2;clear he y1)
    |(refine aL.rN (by rfl) _ _ _ (by rfl) _ _ _ _ (by rfl) (by rfl) y2.out ?_;clear y2))
   all_goals (
    go_wp2_with fail;go_roundg (gk-1)
    case rel=>exact ⟨j+1,by go_num,by omega,hd (by obtain ⟨ps,Fs,g1,g2⟩:=HY.out;exact ⟨ps,a',c',Fs,g1,g2⟩)⟩
    case measure=>omega)
  ·obtain rfl:j=np:=by omega
   have k1:=HK.out.below hI.au;have m11:=k1.sU.2.2.2.2.2.2.1;rw [dV.out]at m11;obtain ⟨aq,Y_⟩:=Haa l.aq;rw [Y_.out]at m11;have Ku:ps.length=j:=hI.np;have Kv:Hid (ps.map (·.x)=m.pt):=hd (by rw [zh,aap (by rw [HS.out.np,dI.out];exact aag _)]);have ry:Hid (∃qs Fs,SI w wr G T ps a j c qs none 0 0 Fs/\qs.map (·.x)=m.pr.take 0):=hd ⟨[],Fs,hI,by simp⟩;clear k1 hI zh ug af aO;go_wp2_with fail;go_loopg [35] nq (fun k v35 wr=>∃(i:Nat),v35=.int .i64 (i:Int)/\i+k=nq/\Hid (∃qs b d Fs,SI w wr G T ps a j c qs b i d Fs/\qs.map (·.x)=m.pr.take i))
   case atStart=>exact ⟨0,rfl,by omega,hd (by obtain ⟨qs,Fs,h1,h2⟩:=ry.out;exact ⟨qs,none,0,Fs,h1,h2⟩)⟩
   case round=>
    obtain ⟨i,rfl,dh,HH⟩:=hrel;clear ry m11;obtain ⟨qs,b,d,Fs,hI,vC⟩:=HH.out;clear HH;by_cases af:i<nq
    ·have fI:(i:Int)<(nq:Int):=by omega
     have bP:i<l.c.procs.length:=by rw [dV.out];exact af
     have k1:=HK.out.below hI.au;obtain ⟨g,ag,cg⟩:=k1.Ga bP;obtain rfl:aq=some ⟨g,0,none⟩:=Y_.out.symm.trans ag;have aJ:=qstand_m k1.drew HS.out HC.out bP;have x1:wr.cell? ⟨G,2,none⟩=some (.slice b i d):=aaa wr G 2 _ _ _ hI.box
     have HN:Hid (∀e w1,OQ wr.drew (aB m i) e w1->∃(t:iN) (a':Option Addr) (c':Nat) (w2:World),e=.returned (.agg #[.int .i64 t.x.st,.int .i64 t.x.core.pc,.int .i64 (t.x.core.r 0),.int .i64 (t.x.core.r 1),.int .i64 (t.x.core.r 2),.int .i64 (t.x.core.r 3),.int .i64 (t.x.core.r 4),.int .i64 (t.x.core.r 5),.int .i64 (t.x.core.r 6),.int .i64 (t.x.core.r 7),.int .i64 (t.x.lc:Int),.int .i64 t.x.timer,.bool t.x.fired,.int .i64 t.x.bE,.slice t.la t.x.ss.length t.lc])/\(∀W,Below w1.heap.size w1 W->W.cell? ⟨G,2,none⟩=some (.slice b i d))/\
      (∀ty,(Builtin.append_ #[76,76] ty #[.slice b i d,.slice (some ⟨w1.heap.size,0,none⟩) 1 1]).run prog (w1.alloc (.cells #[.int .i64 t.x.st,.int .i64 t.x.core.pc,.int .i64 (t.x.core.r 0),.int .i64 (t.x.core.r 1),.int .i64 (t.x.core.r 2),.int .i64 (t.x.core.r 3),.int .i64 (t.x.core.r 4),.int .i64 (t.x.core.r 5),.int .i64 (t.x.core.r 6),.int .i64 (t.x.core.r 7),.int .i64 (t.x.lc:Int),.int .i64 t.x.timer,.bool t.x.fired,.int .i64 t.x.bE,.slice t.la t.x.ss.length t.lc] 115))=.ok (.slice a' (i+1) c') w2)/\(∃u,w2.cell? ⟨G,2,none⟩=some u)/\w2.frozen? ⟨G,2,none⟩=false/\
      Hid (∃qs Fs,SI w (w2.setCell ⟨G,2,none⟩ (.slice a' (i+1) c')) G T ps a j c qs a' (i+1) c' Fs/\qs.map (·.x)=m.pr.take (i+1))):=hd (fun e w1 he=>by
      obtain ⟨t,F,rfl,lY,qx,hb⟩:=he;have eW:=cC hb;have h1:=hI.below eW;obtain ⟨a',c',w2,q1,q2,q3,q4⟩:=BQ (T:=76) underlying76 Jc rfl (by omega) h1.rq (by omega) (lz t) rfl (Vc t);have qz:=(aab.1 h1.box).1;have zi:ae b≠some G:=fun e=>by have:=(hI.bg G e).1;have:=hI.gg;omega
      have sN:w2.heap[G]?=w1.heap[G]?:=q3.block _ qz zi;refine ⟨t,a',c',w2,rfl,fun W hW=> ?_,q1,⟨_,(aa1 (w:=w1) sN).trans (aaa w1 G 2 _ _ _ h1.box)⟩,(aby (w:=w1) sN).trans (by simp [World.frozen?,h1.box]),hd ?_⟩
      ·have:=(h1.below hW).box;exact aaa W G 2 _ _ _ this
      ·obtain ⟨bG,h2⟩:=hI.D2 eW (t:=t) (F:=F) qx q2 q3 q4;refine ⟨_,bG,h2, ?_⟩;rw [abd,vC,zI m.pr i default (by rw [HS.out.nq];exact bP)];simp only [List.map_cons,List.map_nil,lY]
       rfl)
     clear hI k1 ag bP;go_upto_region 10 with fail
     go_region_law (first
      |(go_simp;(with_reducible refine aJ.mono ?_);rintro e w1 he;obtain ⟨t,a',c',w2,rfl,y1,y2,⟨yu,y3⟩,y4,HY⟩:=HN.out e w1 he;have y0:=y1 w1 (aak _ _);have yA:∀ob,(w1.alloc ob).cell? ⟨G,2,none⟩=some (.slice b i d):=(fun ob=>y1 _ (aA w1 ob));replace y2:=hd y2;clear he y1)
      |(refine aL.rN (by rfl) _ _ _ (by rfl) _ _ _ _ (by rfl) (by rfl) y2.out ?_;clear y2))
     all_goals (
      go_wp2_with fail;go_roundg (gk-1)
      case rel=>exact ⟨i+1,by go_num,by omega,hd (by obtain ⟨qs,Fs,g1,g2⟩:=HY.out;exact ⟨qs,a',c',Fs,g1,g2⟩)⟩
      case measure=>omega)
    ·obtain rfl:i=nq:=by omega
     have GN:qs.map (·.x)=m.pr:=by rw [vC,aap (by rw [HS.out.nq,dV.out];exact aag _)]
     have gy:=hI.box;have dN:=hI.res;have ES:=hI.gg;have lT:m.pt.length=j:=by rw [HS.out.np,dI.out]
     have iK:m.pr.length=i:=by rw [HS.out.nq,dV.out]
     have HO:Hid (Q (.returned (.agg #[.int .i64 T,.slice a j c,.slice b i d])) (((wr.setCell ⟨w.heap.size,0,none⟩ (.int .i64 T)).setCell ⟨w.heap.size,1,none⟩ (.slice a j c)).setCell ⟨w.heap.size,2,none⟩ (.slice b i d))):=hd (by
      rw [<-hQ.out];have mr:Mod (fun k=>k=w.heap.size) wr (((wr.setCell ⟨w.heap.size,0,none⟩ (.int .i64 T)).setCell ⟨w.heap.size,1,none⟩ (.slice a j c)).setCell ⟨w.heap.size,2,none⟩ (.slice b i d)):=dz (dz (dP _ _ _ _) _ _) _ _;refine ⟨ps,a,c,qs,b,d,Fs,by rw [xE,hT.out,lT,iK],⟨Kv.out,GN, ?_, ?_, ?_,fun k hk=>⟨by have:=(hI.ag k hk).1;omega,(hI.ag k hk).2⟩,fun k hk=>⟨by have:=(hI.bg k hk).1;omega,(hI.bg k hk).2⟩⟩, ?_⟩
      ·rw [lT];exact hI.rp.mod mr (fun k hk e=>by have:=(hI.ag k hk).1;omega)
      ·rw [iK];exact hI.rq.mod mr (fun k hk e=>by have:=(hI.bg k hk).1;omega)
      ·have px:=hI.pj.mod mr (fun x hx k hk e=>by have:=(hI.pj.at' x hx).ge k hk;omega);exact ⟨fun x hx=>(px.at' x hx).mono (by omega),px.ap⟩
      ·exact ((Mod.aS (fun _=>False) hI.au).trans mr (fun k hk=> .inr (by omega))).below (aag _) (fun k _ hk=>hk.elim))
     have v0:=aaa wr G 0 _ _ _ gy;have v1:=aaa wr G 1 _ _ _ gy;have v2:=aaa wr G 2 _ _ _ gy;unfold z51 at dN;have z0:=aaa wr w.heap.size 0 _ _ _ dN;have z1:=aaa wr w.heap.size 1 _ _ _ dN;have z2:=aaa wr w.heap.size 2 _ _ _ dN;have zf:∀j,wr.frozen? ⟨w.heap.size,j,none⟩=false:=fun j=>by simp [World.frozen?,dN]
     have zj:Hid ((((wr.setCell ⟨w.heap.size,0,none⟩ (.int .i64 T)).setCell ⟨w.heap.size,1,none⟩ (.slice a j c)).setCell ⟨w.heap.size,2,none⟩ (.slice b i d)).heap[w.heap.size]?=some (.cells #[.int .i64 T,.slice a j c,.slice b i d] 78 (0,0))):=hd (by
      rw [aU (aU (aU dN _) _) _]
      rfl)
     clear hI gy dN ES GN vC lT iK Ku af dh;go_wp2_with fail;refine aar (v:=.agg #[.int .i64 T,.slice a j c,.slice b i d]) ?_ rfl HO.out;have y0:=aaa _ w.heap.size 0 _ _ _ zj.out;have y1:=aaa _ w.heap.size 1 _ _ _ zj.out;have y2:=aaa _ w.heap.size 2 _ _ _ zj.out;clear HO zj v0 v1 v2 z0 z1 z2 zf;generalize World.setCell _ _ _=Wf at*
     simp at y0 y1 y2;simp [results,results74,go_sem,y0,y1,y2]
end
end Go.Proofs.YthopnfbjiifhhaaGreatDoor
