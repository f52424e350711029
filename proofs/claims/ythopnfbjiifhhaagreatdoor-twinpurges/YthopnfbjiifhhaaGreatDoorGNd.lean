/- A config copied. -/
import Derived.Test.YthopnfbjiifhhaaGreatDoorGNc
set_option maxHeartbeats 4000000
set_option maxRecDepth 100000
namespace Go.Proofs.YthopnfbjiifhhaaGreatDoor
open Go.RowKit Go.Proofs.Tryz
theorem pCells_one(l:List Ins):∀u∈jK l,u.oneCell'=true:=by
 intro u hu;simp only [jK,List.mem_flatMap,rS]at hu;obtain ⟨x,_,hx⟩:=hu;simp only [List.mem_cons,List.not_mem_nil,or_false]at hx;rcases hx with rfl|rfl|rfl|rfl|rfl<;>rfl
def tu:Array Value:=#[.slice none 0 0,.slice none 0 0,.int .i64 0,.int .i64 0,.int .i64 0,.int .i64 0,.slice none 0 0]
def Iz(c:ak)(g:Loc):gV:=⟨28,1,g.la,c.labels.length,g.lc,fJ c.labels⟩
def IA(c:ak)(g:Loc):gV:=⟨3,1,g.ta,c.table.length,g.tc,iC c.table⟩
def uI(c:ak)(g:Loc):gV:=⟨38,2,g.pa,c.procs.length,g.pc,jw g.ms⟩
structure vL(w wr:World)(c:ak)(g q:Loc)(j:Nat):Prop where
 box:wr.heap[w.heap.size]?=some (.cells (a_ c q) 26 (0,0))
 res:wr.heap[w.heap.size+1]?=some (.cells tu 26 (0,0))
 own:bT (w.heap.size+2) wr (Iz c q::IA c q::uI c q::(q.ms.take j).map sy)
 rest:∀k,j<=k->q.ms.getD k default=g.ms.getD k default
 ps:dD q.ms=c.procs
 au:Below w.heap.size w wr
theorem Ve:∀(ms:List jl) (j:Nat) (x:jl),j<ms.length->x.p=(ms.getD j default).p->(jw ms).set (j*2+1) (.slice x.a x.p.code.length x.c)=jw (ms.set j x)
 |[],j,x,h,_=>absurd h (aao j)
 |t::ts,0,x,_,e=>by
  simp only [List.getD_cons_zero]at e;simp only [jw,List.flatMap_cons,List.set_cons_zero,dS];rw [e];rfl
 |t::ts,j+1,x,h,e=>by
  have ih:=Ve ts j x (by simpa using h) (by simpa using e);simp only [jw,List.flatMap_cons,List.set_cons_succ]at*
  rw [<-ih,aa6 _ _ (by rw [show(dS t).length=2 from rfl];omega),show(dS t).length=2 from rfl,show(j+1)*2+1-2=j*2+1 by omega]
theorem psOf_set(ms:List jl)(j:Nat)(x:jl)(h:j<ms.length)(e:x.p=(ms.getD j default).p):dD (ms.set j x)=dD ms:=by
 unfold dD;rw [List.map_set,e,aac,aad h];simp only [Option.getD_some];rw [<-List.getElem_map (f:=jl.p) (h:=by simpa using h)];exact List.set_getElem_self _
variable{α:Type}{w wr:World}{g q:Loc}{j:Nat}
theorem perm_r(d l t p:α)(r:List α):(p::d::l::t::r).Perm (l::t::p::(r++[d])):=by
 have h1:(l::t::p::(r++[d])).Perm (d::l::t::p::r):=by
  have:=@List.perm_append_comm _ (l::t::p::r) [d];simpa using this
 refine List.Perm.trans ?_ h1.symm;refine (List.Perm.swap d p _).trans (List.Perm.cons d ?_);exact (List.Perm.swap l p _).trans (List.Perm.cons l (List.Perm.swap t p _))
theorem perm_f(d l t p:α)(r:List α):(d::l::t::p::r).Perm (p::d::l::t::r):=by
 have h1:(d::l::t::p::r).Perm (d::l::p::t::r):=List.Perm.cons d (List.Perm.cons l (List.Perm.swap p t r));have h2:(d::l::p::t::r).Perm (d::p::l::t::r):=List.Perm.cons d (List.Perm.swap p l _);exact (h1.trans h2).trans (List.Perm.swap p d _)
theorem vL.step{w1:World}{c:ak}{gp:Nat}(h:vL w wr c g q j)(hj:j<c.procs.length)(xG:q.pa=some ⟨gp,0,none⟩)(hb:Below wr.heap.size wr w1){a':Option Addr}{c':Nat}(hr:Row w1 35 5 a' (c.procs.getD j default).code.length c' (jK (c.procs.getD j default).code))(hn:∀k,ae a'=some k->wr.heap.size<=k):
 vL w (w1.setCell ⟨gp,j*2+1,none⟩ (.slice a' (c.procs.getD j default).code.length c')) c g {q with ms:=q.ms.set j ⟨c.procs.getD j default,a',c'⟩} (j+1):=by
 obtain ⟨b1,b2,b3,b4,b5,b6⟩:=h;have hlen:q.ms.length=c.procs.length:=by rw [<-b5,mY]
 have hp:(q.ms.getD j default).p=c.procs.getD j default:=by
  rw [<-b5];unfold dD;rw [aac,aac,aaK,aad (by omega)];rfl
 have gi:=b6.size;have mT:=hb.size;have hBs:w.heap.size+2<=wr.heap.size:=by have:=(aab.1 b2).1;omega
 have lJ:w.heap.size+2<=gp:=b3.new (uI c q) (by simp) gp (by show ae q.pa=_;rw [xG];rfl);have o1:=b3.below hb
 have o2:=o1.cons (d:=sy ⟨c.procs.getD j default,a',c'⟩) hr (fun k hk=>aai hBs (hn k hk)) (fun d hd k hk e=>by
  have h1:=hn k hk;have h2:=b3.lt d hd k e
  omega)
 have o3:=o2.perm (perm_f _ _ _ _ _);have bI:Row w1 38 2 (some ⟨gp,0,none⟩) c.procs.length q.pc (jw q.ms):=by
  have:=o3.head;simp only [uI,xG]at this;exact this
 have hm:Mod (fun k=>k=gp) w1 (w1.setCell ⟨gp,j*2+1,none⟩ (.slice a' (c.procs.getD j default).code.length c')):=dP _ _ _ _;have Xv:=bI.put (j*2+1) (.slice a' (c.procs.getD j default).code.length c');rw [Ve q.ms j ⟨c.procs.getD j default,a',c'⟩ (by omega) hp.symm]at Xv;have o4:=o3.turn (d':=uI c {q with ms:=q.ms.set j ⟨c.procs.getD j default,a',c'⟩}) (by omega) (hm.mono (fun k _ e=>by show ae q.pa=some k;rw [xG,e];rfl)) (by show Row _ _ _ q.pa _ _ _;rw [xG];exact Xv) (fun k hk=> .inl hk);have o5:=o4.perm (perm_r _ _ _ _ _);have et:(q.ms.set j ⟨c.procs.getD j default,a',c'⟩).take (j+1)=q.ms.take j++[⟨c.procs.getD j default,a',c'⟩]:=by
  rw [List.take_set,aaD (by omega),aa6 _ _ (by rw [aa4];omega),aa4,aaW (by omega),Nat.sub_self];rfl
 refine ⟨?_, ?_, ?_,fun k hk=> ?_, ?_,(b6.trans (hb.mono gi)).setCell (by show _<=gp;omega) _⟩
 ·rw [hm.block _ (by omega) (by omega),hb.block _ (by omega)];exact b1
 ·rw [hm.block _ (by omega) (by omega),hb.block _ (by omega)];exact b2
 ·simp only [et,List.map_append,List.map_cons,List.map_nil];exact o5
 ·rw [<-b4 k (by omega)];show(q.ms.set j ⟨c.procs.getD j default,a',c'⟩).getD k default=q.ms.getD k default;rw [aac,aa9 (by omega),<-aac]
 ·exact (psOf_set q.ms j ⟨c.procs.getD j default,a',c'⟩ (by omega) hp.symm).trans b5
def jd(w:World)(c:ak)(E:Ending)(w':World):Prop:=∃q,E=.returned (ct c q)/\kS w.heap.size w' c q/\Below w.heap.size w w'
theorem seven_set(v0 v1 v2 v3 v4 v5 v6 u0 u1 u2 u3 u4 u5 u6:Value):((((((#[v0,v1,v2,v3,v4,v5,v6].setIfInBounds 0 u0).setIfInBounds 1 u1).setIfInBounds 2 u2).setIfInBounds 3 u3).setIfInBounds 4 u4).setIfInBounds 5 u5).setIfInBounds 6 u6=#[u0,u1,u2,u3,u4,u5,u6]:=by simp
theorem vL.done{w':World}{c:ak}(h:vL w wr c g q j)(hj:j=c.procs.length)(hm:Mod (fun k=>k=w.heap.size+1) wr w'):kS w.heap.size w' c q/\Below w.heap.size w w':=by
 obtain ⟨b1,b2,b3,b4,b5,b6⟩:=h;have hlen:q.ms.length=c.procs.length:=by rw [<-b5,mY]
 rw [aap (by omega)]at b3;have h1:=(b3.mod hm (fun d hd k hk e=>by have:=b3.new d hd k hk;omega)).mono (B':=w.heap.size) (by omega);exact ⟨⟨h1,b5⟩,((Mod.aS (fun _=>False) b6).trans hm (fun k e=> .inr (by omega))).below (aag _) (fun k _ hk=>hk.elim)⟩
theorem vL.start{W3 w3:World}{c:ak}{a1 a2 a3:Option Addr}{c1 c2 c3:Nat}(hR:fD w c g)(box:W3.heap[w.heap.size]?=some (.cells (a_ c ⟨a1,c1,a2,c2,g.pa,g.pc,g.ms⟩) 26 (0,0)))(res:W3.heap[w.heap.size+1]?=some (.cells tu 26 (0,0)))
 (h1:Row W3 28 1 a1 c.labels.length c1 (fJ c.labels))(n1:∀k,ae a1=some k->w.heap.size+2<=k)(h2:Row W3 3 1 a2 c.table.length c2 (iC c.table))(n2:∀k,ae a2=some k->w.heap.size+2<=k/\ae a1≠some k)(au:Below w.heap.size w W3)
 (h3:Row w3 38 2 a3 c.procs.length c3 (jw g.ms))(n3:∀k,ae a3=some k->W3.heap.size<=k)(b3:Below W3.heap.size W3 w3):vL w (w3.setCell ⟨w.heap.size,6,none⟩ (.slice a3 c.procs.length c3)) c g ⟨a1,c1,a2,c2,a3,c3,g.ms⟩ 0:=by
 have hm:Mod (fun k=>k=w.heap.size) w3 (w3.setCell ⟨w.heap.size,6,none⟩ (.slice a3 c.procs.length c3)):=dP _ _ _ _;have hs:=au.size;have hs3:=b3.size;have iK:=(aab.1 res).1;refine ⟨?_, ?_, ?_,fun _ _=>rfl,hR.ps,(au.trans (b3.mono hs)).setCell (aag _) _⟩
 ·have e1:w3.heap[w.heap.size]?=_:=(b3.block _ (by omega)).trans box;rw [aU e1];rfl
 ·rw [hm.block _ (by omega) (by omega),b3.block _ (by omega)];exact res
 ·simp only [List.take_zero,List.map_nil];refine bT.cons (bT.cons (bT.cons (bT.nil _ _) ?_ ?_ ?_) ?_ ?_ ?_) ?_ ?_ ?_
  ·exact h3.mod hm (fun k hk e=>by have:=n3 k hk;omega)
  ·exact fun k hk=>aai iK (n3 k hk)
  ·exact fun d hd=>absurd hd aaF
  ·exact (h2.below b3).mod hm (fun k hk e=>by have:=(n2 k hk).1;omega)
  ·exact fun k hk=>(n2 k hk).1
  ·intro d hd k hk e;rcases aaL.1 hd with rfl;have g1:=n3 k e;have g2:=h2.lt k hk;omega
  ·exact (h1.below b3).mod hm (fun k hk e=>by have:=n1 k hk;omega)
  ·exact n1
  ·intro d hd k hk e;rcases aa0.1 hd with rfl|hd
   ·exact (n2 k e).2 hk
   ·rcases aaL.1 hd with rfl;have g1:=n3 k e;have g2:=h1.lt k hk;omega
structure Zo(c:ak):Prop where
 l1:c.labels.length<=1000000
 l2:c.table.length<=1000000
 l3:c.procs.length<=1000000
 l4:∀p,p<c.procs.length->(c.procs.getD p default).code.length<=1000000
theorem FF(c:ak)(g:Loc)(w:World)(hR:fD w c g)(hS:Zo c):Calls prog 62 #[ct c g] w (jd w c):=by
 obtain ⟨s1,s2,s3,s4⟩:=hS;have ai:=aA w (.cells (a_ c g) 26);have aH:=ai.alloc ai.size (.cells tu 26);have oJ:((w.alloc (.cells (a_ c g) 26)).alloc (.cells tu 26)).heap[w.heap.size]?=some (.cells (a_ c g) 26 (0,0)):=by
  rw [(aA (w.alloc (.cells (a_ c g) 26)) _).block _ (by simp)];exact aae w _
 have kQ:((w.alloc (.cells (a_ c g) 26)).alloc (.cells tu 26)).heap[w.heap.size+1]?=some (.cells tu 26 (0,0)):=by
  have:=aae (w.alloc (.cells (a_ c g) 26)) (.cells tu 26);simpa using this
 obtain ⟨W0,aD⟩:=Haa ((w.alloc (.cells (a_ c g) 26)).alloc (.cells tu 26));rw [aD.out]at aH oJ kQ;have CR:Hid (∀W,Below w.heap.size w W->Calls prog 91 #[.slice g.la c.labels.length g.lc] W (ig W 28 1 c.labels.length (fJ c.labels))):=hd (fun W hb=>VA _ _ _ _ W (hR.pY.below hb) (T9 _) (Na _) s1);have Zp:Hid (∀W,Below w.heap.size w W->Calls prog 57 #[.slice g.ta c.table.length g.tc] W (ig W 3 1 c.table.length (iC c.table))):=hd (fun W hb=>VB _ _ _ _ W (hR.qh.below hb) (oo _) (tH _) s2)
 have ze:Hid (∀W,Below w.heap.size w W->Calls prog 92 #[.slice g.pa c.procs.length g.pc] W (ig W 38 2 c.procs.length (jw g.ms))):=hd (fun W hb=>cloneP _ _ _ _ W (hR.oN.below hb) (by rw [psC_len,hR.len]) (by
  intro u hu;simp only [jw,List.mem_flatMap]at hu;obtain ⟨x,_,hx⟩:=hu
  exact UJ x u hx) s3)
 have HCN:Hid (∀j W,j<c.procs.length->Below w.heap.size w W->Calls prog 93 #[.slice (g.ms.getD j default).a (c.procs.getD j default).code.length (g.ms.getD j default).c] W (ig W 35 5 (c.procs.getD j default).code.length (jK (c.procs.getD j default).code))):=hd (fun j W hj hb=>by
  have hm:g.ms.getD j default∈g.ms:=by
   have:j<g.ms.length:=by rw [hR.len];exact hj
   rw [aac,aad this];exact aaG this
  have h1:=(hR.yx _ hm).below hb;rw [hR.at j]at h1
  exact cloneN _ _ _ _ W h1 (SQ _) (pCells_one _) (s4 j hj))
 have fP:=hd hR;obtain ⟨Q,hQ⟩:=Haa (jd w c);rw [hQ.out];have Zq:=CR.out W0 aH;have c0:W0.cell? ⟨w.heap.size,0,none⟩=some (.slice g.la c.labels.length g.lc):=by rw [aaa _ _ _ _ _ _ oJ];rfl
 have HK:Hid (∀(W:World) (cs:Array Value),W.heap[w.heap.size]?=some (.cells cs 26 (0,0))->∀i,W.cell? ⟨w.heap.size,i,none⟩=cs[i]?/\W.frozen? ⟨w.heap.size,i,none⟩=false):=hd (fun W cs h i=>⟨aaa _ _ _ _ _ _ h,by simp [World.frozen?,h]⟩);replace oJ:=hd oJ;replace kQ:=hd kQ;replace aH:=hd aH;clear hR ai;unfold ct;unfold a_ tu at aD;unfold a_;go_enter func62,ntmps62;go_upto_region 1 with fail;rw [aD.out];clear aD;go_upto_region 2 with(go_at_call 91;(with_reducible refine Zq.mono ?_);rintro e w1 ⟨a1,c1,rfl,r1,n1,b1⟩;have jJ:=hd ((b1.block _ (aab.1 oJ.out).1).trans oJ.out);obtain ⟨f0,f1⟩:=HK.out w1 _ jJ.out 0);obtain ⟨V1,zo⟩:=Haa (w1.setCell ⟨w.heap.size,0,none⟩ (.slice a1 c.labels.length c1))
 have EY:Hid (V1.heap[w.heap.size]?=some (.cells (a_ c {g with la:=a1,lc:=c1}) 26 (0,0))/\V1.heap[w.heap.size+1]?=some (.cells tu 26 (0,0))/\Row V1 28 1 a1 c.labels.length c1 (fJ c.labels)/\(∀k,ae a1=some k->w.heap.size+2<=k)/\Below w.heap.size w V1):=hd (by
  rw [<-zo.out];have hm:Mod (fun k=>k=w.heap.size) w1 (w1.setCell ⟨w.heap.size,0,none⟩ (.slice a1 c.labels.length c1)):=dP _ _ _ _;have hl:=(aab.1 kQ.out).1;have hs:=b1.size;refine ⟨?_, ?_,r1.mod hm (fun k hk e=>by have:=n1 k hk;omega),fun k hk=>by have:=n1 k hk;omega,(aH.out.trans (b1.mono aH.out.size)).setCell (aag _) _⟩
  ·rw [aU jJ.out];rfl
  ·rw [hm.block _ (by omega) (by omega),b1.block _ (by omega)]
   exact kQ.out)
 rw [zo.out];clear zo f0 f1 jJ r1 n1 b1 Zq c0 oJ kQ aH;have yM:=Zp.out V1 EY.out.2.2.2.2;obtain ⟨rr,-⟩:=HK.out V1 _ EY.out.1 1;replace rr:V1.cell? ⟨w.heap.size,1,none⟩=some (.slice g.ta c.table.length g.tc):=rr;go_upto_region 3 with(go_at_call 57;(with_reducible refine yM.mono ?_);rintro e w2 ⟨a2,c2,rfl,r2,n2,b2⟩;have mB:=hd ((b2.block _ (aab.1 EY.out.1).1).trans EY.out.1);obtain ⟨f0,f1⟩:=HK.out w2 _ mB.out 1);obtain ⟨V2,zr⟩:=Haa (w2.setCell ⟨w.heap.size,1,none⟩ (.slice a2 c.table.length c2))
 have EZ:Hid (V2.heap[w.heap.size]?=some (.cells (a_ c ⟨a1,c1,a2,c2,g.pa,g.pc,g.ms⟩) 26 (0,0))/\V2.heap[w.heap.size+1]?=some (.cells tu 26 (0,0))/\Row V2 28 1 a1 c.labels.length c1 (fJ c.labels)/\(∀k,ae a1=some k->w.heap.size+2<=k)/\Row V2 3 1 a2 c.table.length c2 (iC c.table)/\(∀k,ae a2=some k->w.heap.size+2<=k/\ae a1≠some k)/\Below w.heap.size w V2):=hd (by
  rw [<-zr.out];obtain ⟨k1,k2,k3,k4,k5⟩:=EY.out;have hm:Mod (fun k=>k=w.heap.size) w2 (w2.setCell ⟨w.heap.size,1,none⟩ (.slice a2 c.table.length c2)):=dP _ _ _ _;have hl:=(aab.1 k2).1;have hs:=b2.size;have Iq:=k3.lt;refine ⟨?_, ?_,(k3.below b2).mod hm (fun k hk e=>by have:=k4 k hk;omega),k4,r2.mod hm (fun k hk e=>by have:=n2 k hk;omega),fun k hk=>⟨by have:=n2 k hk;omega,fun e=>by have:=n2 k hk;have:=Iq k e;omega⟩,(k5.trans (b2.mono k5.size)).setCell (aag _) _⟩
  ·rw [aU mB.out];rfl
  ·rw [hm.block _ (by omega) (by omega),b2.block _ (by omega)]
   exact k2)
 rw [zr.out];clear zr f0 f1 mB r2 n2 b2 yM rr EY;have Zr:=ze.out V2 EZ.out.2.2.2.2.2.2;obtain ⟨RA,-⟩:=HK.out V2 _ EZ.out.1 6;replace RA:V2.cell? ⟨w.heap.size,6,none⟩=some (.slice g.pa c.procs.length g.pc):=RA;go_upto_region 4 with(go_at_call 92;(with_reducible refine Zr.mono ?_);rintro e w3 ⟨a3,c3,rfl,r3,n3,b3⟩;have Zs:=hd ((b3.block _ (aab.1 EZ.out.1).1).trans EZ.out.1);obtain ⟨f0,f1⟩:=HK.out w3 _ Zs.out 6);obtain ⟨V3,EX⟩:=Haa (w3.setCell ⟨w.heap.size,6,none⟩ (.slice a3 c.procs.length c3))
 have lC:Hid (vL w V3 c g ⟨a1,c1,a2,c2,a3,c3,g.ms⟩ 0):=hd (by
  rw [<-EX.out];obtain ⟨k1,k2,k3,k4,k5,k6,k7⟩:=EZ.out
  exact vL.start fP.out k1 k2 k3 k4 k5 k6 k7 r3 n3 b3)
 rw [EX.out];clear EX f0 f1 Zs r3 n3 b3 Zr RA EZ CR Zp ze;obtain ⟨c6,-⟩:=HK.out V3 _ lC.out.box 6;replace c6:V3.cell? ⟨w.heap.size,6,none⟩=some (.slice a3 c.procs.length c3):=c6;obtain ⟨np,dI⟩:=Haa c.procs.length;rw [dI.out]at c6 s3;go_wp2_with fail;go_loopg [19] np (fun k v19 wr=>∃(j:Nat),v19=.int .i64 (j:Int)/\j+k=np/\Hid (∃ms,vL w wr c g ⟨a1,c1,a2,c2,a3,c3,ms⟩ j))
 case atStart=>exact ⟨0,rfl,by omega,hd ⟨_,lC.out⟩⟩
 case round=>
  obtain ⟨j,rfl,ug,HH⟩:=hrel;clear lC c6;obtain ⟨ms,hI⟩:=HH.out;clear HH;by_cases af:j<np
  ·have fI:(j:Int)<(np:Int):=by omega
   have hj:j<c.procs.length:=by rw [dI.out];exact af
   have bI:=hI.own.ok (uI c ⟨a1,c1,a2,c2,a3,c3,ms⟩) (by simp);obtain ⟨gp,xG⟩:∃gp,a3=some ⟨gp,0,none⟩:=Row.head bI (by simp only [uI];omega);subst xG;have jy:ms.length=c.procs.length:=by rw [<-hI.ps,mY]
   have uJ:Hid (∀W,Below wr.heap.size wr W->W.cell? ⟨w.heap.size,6,none⟩=some (.slice (some ⟨gp,0,none⟩) np c3)/\W.cell? ⟨gp,j*2+1,none⟩=some (.slice (g.ms.getD j default).a (c.procs.getD j default).code.length (g.ms.getD j default).c)/\W.frozen? ⟨gp,j*2+1,none⟩=false):=hd (fun W hb=>by
    obtain ⟨k1,-⟩:=HK.out W _ ((hb.block _ (aab.1 hI.box).1).trans hI.box) 6;have j9:=Row.below bI hb;obtain ⟨g2,e2,k2⟩:=Row.cell j9 (j*2+1) (by simp only [uI];omega)
    cases e2
    refine ⟨by rw [k1,<-dI.out];rfl, ?_,Row.free j9 _ gp rfl⟩;rw [k2];show(jw ms)[j*2+1]?=_;rw [(oy ms j (by omega)).2];have e1:=hI.rest j (aag _);simp only at e1
    rw [e1,fP.out.at j])
   obtain ⟨d6,dr,df⟩:=uJ.out wr (aak _ _);have RC:=HCN.out j wr.drew hj (hI.au.drew);have HI:=hd hI;obtain ⟨cn,xn⟩:=Haa ((c.procs.getD j default).code.length)
   have HS:Hid (∀w1 a' c',Row w1 35 5 a' cn c' (jK (c.procs.getD j default).code)->(∀k,ae a'=some k->wr.drew.heap.size<=k)->Below wr.drew.heap.size wr.drew w1->∃ms,vL w (w1.setCell ⟨gp,j*2+1,none⟩ (.slice a' cn c')) c g ⟨a1,c1,a2,c2,some ⟨gp,0,none⟩,c3,ms⟩ (j+1)):=hd (fun w1 a' c' h1 h2 h3=>by
    rw [<-xn.out]at h1⊢
    exact ⟨_,HI.out.step hj rfl (cC h3) h1 h2⟩)
   rw [xn.out]at RC dr uJ;obtain ⟨ga,zi⟩:=Haa ((g.ms.getD j default).a);obtain ⟨gc,o_⟩:=Haa ((g.ms.getD j default).c);rw [zi.out,o_.out]at RC dr uJ;clear hI bI hj jy;go_upto_region 7 with fail;have Kr:gp≠w.heap.size:=by have:=HI.out.own.new (uI c ⟨a1,c1,a2,c2,some ⟨gp,0,none⟩,c3,ms⟩) (by simp) gp rfl;omega
   have Px:w.heap.size≠gp:=fun e=>Kr e.symm
   go_region_law (first
    |(go_simp;(with_reducible refine RC.mono ?_);rintro e w1 ⟨a',c',rfl,r1,r2,r3⟩;obtain ⟨g6,gr,gf⟩:=uJ.out w1 (cC r3)))
   all_goals (
    go_wp2_with fail;go_roundg (gk-1)
    case rel=>exact ⟨j+1,by go_num,by omega,hd (HS.out w1 a' c' r1 r2 r3)⟩
    case measure=>omega)
  ·have ej:j=np:=by omega
   subst ej;have hx:=hI.box;have aI:=hI.res;have HF:=hd hI;clear hI
   have HO:Hid (Q (.returned (.agg #[.slice a1 c.labels.length c1,.slice a2 c.table.length c2,.int .i64 c.fuel,.int .i64 c.lane,.int .i64 c.aF,.int .i64 c.log,.slice a3 c.procs.length c3])) (((((((wr.setCell ⟨w.heap.size+1,0,none⟩ (.slice a1 c.labels.length c1)).setCell ⟨w.heap.size+1,1,none⟩ (.slice a2 c.table.length c2)).setCell ⟨w.heap.size+1,2,none⟩ (.int .i64 c.fuel)).setCell ⟨w.heap.size+1,3,none⟩ (.int .i64 c.lane)).setCell ⟨w.heap.size+1,4,none⟩ (.int .i64 c.aF)).setCell ⟨w.heap.size+1,5,none⟩ (.int .i64 c.log)).setCell ⟨w.heap.size+1,6,none⟩ (.slice a3 c.procs.length c3))):=hd (by
    rw [<-hQ.out];have hm:Mod (fun k=>k=w.heap.size+1) wr (((((((wr.setCell ⟨w.heap.size+1,0,none⟩ (.slice a1 c.labels.length c1)).setCell ⟨w.heap.size+1,1,none⟩ (.slice a2 c.table.length c2)).setCell ⟨w.heap.size+1,2,none⟩ (.int .i64 c.fuel)).setCell ⟨w.heap.size+1,3,none⟩ (.int .i64 c.lane)).setCell ⟨w.heap.size+1,4,none⟩ (.int .i64 c.aF)).setCell ⟨w.heap.size+1,5,none⟩ (.int .i64 c.log)).setCell ⟨w.heap.size+1,6,none⟩ (.slice a3 c.procs.length c3)):=dz (dz (dz (dz (dz (dz (dP _ _ _ _) _ _) _ _) _ _) _ _) _ _) _ _;obtain ⟨k1,k2⟩:=HF.out.done dI.out.symm hm
    exact ⟨_,rfl,k1,k2⟩)
   have HZ:Hid ((((((((wr.setCell ⟨w.heap.size+1,0,none⟩ (.slice a1 c.labels.length c1)).setCell ⟨w.heap.size+1,1,none⟩ (.slice a2 c.table.length c2)).setCell ⟨w.heap.size+1,2,none⟩ (.int .i64 c.fuel)).setCell ⟨w.heap.size+1,3,none⟩ (.int .i64 c.lane)).setCell ⟨w.heap.size+1,4,none⟩ (.int .i64 c.aF)).setCell ⟨w.heap.size+1,5,none⟩ (.int .i64 c.log)).setCell ⟨w.heap.size+1,6,none⟩ (.slice a3 c.procs.length c3)).heap[w.heap.size+1]?=some (.cells #[.slice a1 c.labels.length c1,.slice a2 c.table.length c2,.int .i64 c.fuel,.int .i64 c.lane,.int .i64 c.aF,.int .i64 c.log,.slice a3 c.procs.length c3] 26 (0,0))):=hd (by
    unfold tu at aI
    rw [aU (aU (aU (aU (aU (aU (aU aI _) _) _) _) _) _) _,seven_set])
   unfold a_ at hx;unfold tu at aI;have x0:=aaa wr w.heap.size 0 _ _ _ hx;have x1:=aaa wr w.heap.size 1 _ _ _ hx;have x2:=aaa wr w.heap.size 2 _ _ _ hx;have x3:=aaa wr w.heap.size 3 _ _ _ hx;have x4:=aaa wr w.heap.size 4 _ _ _ hx;have x5:=aaa wr w.heap.size 5 _ _ _ hx;have x6:=aaa wr w.heap.size 6 _ _ _ hx;have y0:=aaa wr (w.heap.size+1) 0 _ _ _ aI;have y1:=aaa wr (w.heap.size+1) 1 _ _ _ aI;have y2:=aaa wr (w.heap.size+1) 2 _ _ _ aI;have y3:=aaa wr (w.heap.size+1) 3 _ _ _ aI;have y4:=aaa wr (w.heap.size+1) 4 _ _ _ aI;have y5:=aaa wr (w.heap.size+1) 5 _ _ _ aI;have y6:=aaa wr (w.heap.size+1) 6 _ _ _ aI;have yf:∀i,wr.frozen? ⟨w.heap.size+1,i,none⟩=false:=fun i=>by simp [World.frozen?,aI]
   go_wp2_with fail;refine aar (v:=.agg #[.slice a1 c.labels.length c1,.slice a2 c.table.length c2,.int .i64 c.fuel,.int .i64 c.lane,.int .i64 c.aF,.int .i64 c.log,.slice a3 c.procs.length c3]) ?_ rfl HO.out;have t0:=aaa _ (w.heap.size+1) 0 _ _ _ HZ.out;have t1:=aaa _ (w.heap.size+1) 1 _ _ _ HZ.out;have t2:=aaa _ (w.heap.size+1) 2 _ _ _ HZ.out;have t3:=aaa _ (w.heap.size+1) 3 _ _ _ HZ.out;have t4:=aaa _ (w.heap.size+1) 4 _ _ _ HZ.out;have t5:=aaa _ (w.heap.size+1) 5 _ _ _ HZ.out;have t6:=aaa _ (w.heap.size+1) 6 _ _ _ HZ.out;clear HO HZ x0 x1 x2 x3 x4 x5 x6 y0 y1 y2 y3 y4 y5 y6 yf hx aI HF;generalize World.setCell _ _ _=Wf at*
   simp at t0 t1 t2 t3 t4 t5 t6;simp [results,results62,go_sem,t0,t1,t2,t3,t4,t5,t6]
theorem code_len{l:List Ins}{k:Int}(h:(gB l k).1=0):l.length<=256:=by
 unfold gB at h;split at h
 ·cases h
 ·split at h
  ·cases h
  ·omega
theorem dK.small{c:ak}(h:dK c):Zo c:=
 ⟨by have:=h.n8;omega,by have:=h.t64;omega,by have:=h.k_;omega,fun p hp=>by have:=code_len (h.code p hp);unfold cd at this;omega⟩
theorem kS.mV{B:Nat}{c:ak}(h:kS B w c q):∀k,sS q k->B<=k/\k<w.heap.size:=by
 intro k hk;rcases hk with hk|hk|hk|⟨m,hm,hk⟩
 ·exact ⟨h.own.new (Iz c q) (by simp [Iz,lP]) k hk,h.own.lt (Iz c q) (by simp [Iz,lP]) k hk⟩
 ·exact ⟨h.own.new (IA c q) (by simp [IA,lP]) k hk,h.own.lt (IA c q) (by simp [IA,lP]) k hk⟩
 ·exact ⟨h.own.new (uI c q) (by simp [uI,lP]) k hk,h.own.lt (uI c q) (by simp [uI,lP]) k hk⟩
 ·have hp:sy m∈(q.ms.map sy):=abk hm;exact ⟨h.own.new (sy m) (aaw _ (aaw _ (aaw _ hp))) k hk,h.own.lt (sy m) (aaw _ (aaw _ (aaw _ hp))) k hk⟩
def Gt(w:World)(c:ak)(E:Ending)(w':World):Prop:=∃l U,E=.returned (.tuple #[.pointer (some ⟨l.bm,0,none⟩),.int .i64 0])/\Mk w' l U (firstM c)/\l.c=c/\(∀k,U k->w.heap.size<=k)/\(∀k,l.K k->w.heap.size<=k\/k=1\/k=0)/\Below w.heap.size w w'
theorem new_ok(c:ak)(g:Loc)(w:World)(hR:fD w c g)(hF:bR w)(hL:eQ w)(hm:(jt c).1=0)(sr:∀x∈c.labels,x<18446744073709551616)(hj:∀p,p<c.procs.length->eZ.yH (cd c p)):Calls prog 48 #[ct c g] w (Gt w c):=by
 have LY:=hd (SF hm sr hj);have HR:=hd hR;have HF:=hd hF;have HL:=hd hL;obtain ⟨Q,hQ⟩:=Haa (Gt w c);rw [hQ.out];have uV:Hid (∀W,Below w.heap.size w W->bR W):=hd (fun W hb=>bR.mod HF.out (Mod.aS (fun _=>False) hb) (fun h=>h));have kZ:Hid (∀W,Below w.heap.size w W->eQ W):=hd (fun W hb=>eQ.mod HL.out (Mod.aS (fun _=>False) hb) (fun h=>h));have ai:=aA w (.cells (a_ c g) 26);have aT:=aae w (.cells (a_ c g) 26);obtain ⟨W0,aD⟩:=Haa (w.alloc (.cells (a_ c g) 26));rw [aD.out]at ai aT;obtain ⟨B,hB⟩:=Haa w.heap.size;have Bf:W0.heap.size=B+1:=by rw [<-aD.out,<-hB.out];simp
 have HD:Hid (∀W,Below W0.heap.size W0 W->W.cell? ⟨B,0,none⟩=some (.slice g.la c.labels.length g.lc)/\W.cell? ⟨B,1,none⟩=some (.slice g.ta c.table.length g.tc)/\W.cell? ⟨B,2,none⟩=some (.int .i64 c.fuel)/\W.cell? ⟨B,3,none⟩=some (.int .i64 c.lane)/\W.cell? ⟨B,4,none⟩=some (.int .i64 c.aF)/\W.cell? ⟨B,5,none⟩=some (.int .i64 c.log)/\W.cell? ⟨B,6,none⟩=some (.slice g.pa c.procs.length g.pc)):=hd (fun W hb=>by
  have hk:W.heap[B]?=some (.cells (a_ c g) 26 (0,0)):=by rw [hb.block _ (by omega),<-hB.out];exact aT
  refine ⟨?_, ?_, ?_, ?_, ?_, ?_, ?_⟩<;>(rw [aaa _ _ _ _ _ _ hk];rfl))
 have aX:=hd ai;have kD:Hid (∀W,Below W0.heap.size W0 W->Below w.heap.size w W):=hd (fun W hb=>aX.out.trans (hb.mono aX.out.size));have iG:=Nn c g W0 (hR.below ai) (uV.out W0 ai) (kZ.out W0 ai);rw [hm]at iG;unfold ct a_ at iG;obtain ⟨v0,v1,v2,v3,v4,v5,v6⟩:=HD.out W0 (aak _ _);have ze:Hid (∀W,Below W0.heap.size W0 W->Calls prog 62 #[ct c g] W (jd W c)):=hd (fun W hb=>FF c g W (HR.out.below (kD.out W hb)) LY.out.cfg.small);have qt:Hid (∀W,Calls prog 63 #[ct c g] W (Cp W (firstM c))):=hd (fun W=>first_any c g W LY.out.cfg)
 have HLD:Hid (∀(q:Loc) (w2 w3:World) (B2:Nat) ps a ca qs b cb Fs,kS B2 w2 c q->Below w.heap.size w w2->Below w2.heap.size w2 w3->ST w2.heap.size w3 (firstM c) ps a ca qs b cb Fs->Calls prog 61 #[ct c q,xE (firstM c) a ca b cb] w3 (OU w3 c q (tq q) (firstM c))):=hd (fun q w2 w3 B2 ps a ca qs b cb Fs hq aI eH aJ=>by
  have wQ:=aI.trans (eH.mono aI.size);refine Nk c q (firstM c) ps a ca qs b cb w3 (hq.rd.below eH) (uV.out w3 wQ) (kZ.out w3 wQ) (fun k hk=> ?_) (aJ.rd LY.out.tg) LY.out;rcases hk with hk|rfl|rfl
  ·exact aam (hq.mV k hk).2 eH.size
  ·exact aaj w3 ⟨1,0,none⟩ (uV.out w3 wQ 0 (by decide))
  ·exact aaj w3 ⟨0,0,none⟩ (kZ.out w3 wQ 0 (by decide)))
 clear hR hF hL hm sr ai aT Bf;unfold ct a_ at ze qt;unfold a_ at aD;unfold ct a_;go_enter func48,ntmps48;go_upto_region 1 with fail;rw [aD.out,hB.out];clear aD;go_upto_region 4 with(go_at_call 23;(with_reducible refine iG.mono ?_);rintro e w1 ⟨rfl,aH⟩);clear v0 v1 v2 v3 v4 v5 v6 iG;obtain ⟨v0,v1,v2,v3,v4,v5,v6⟩:=HD.out w1 aH;have jx:=ze.out w1.drew aH.drew;go_region_held3 (fun w'=>w'.cell? ⟨B,0,none⟩=some (.slice g.la c.labels.length g.lc)/\w'.cell? ⟨B,1,none⟩=some (.slice g.ta c.table.length g.tc)/\w'.cell? ⟨B,2,none⟩=some (.int .i64 c.fuel)/\w'.cell? ⟨B,3,none⟩=some (.int .i64 c.lane)/\w'.cell? ⟨B,4,none⟩=some (.int .i64 c.aF)/\w'.cell? ⟨B,5,none⟩=some (.int .i64 c.log)/\w'.cell? ⟨B,6,none⟩=some (.slice g.pa c.procs.length g.pc)) (go_keep)
  (first
   |(go_at_call 62;(with_reducible refine jx.mono ?_);rintro e w2 ⟨q,rfl,hq,aI⟩;have iq:=cC aI;have Kz:=aH.trans (iq.mono aH.size);obtain ⟨s0,s1,s2,s3,s4,s5,s6⟩:=HD.out w2 Kz;have kA:=qt.out w2)
   |(go_at_call 63;(with_reducible refine kA.mono ?_);rintro e w3 ⟨ps,a,ca,qs,b,cb,Fs,rfl,aJ,eH⟩;have KA:=Kz.trans (eH.mono Kz.size);obtain ⟨t0,t1,t2,t3,t4,t5,t6⟩:=HD.out w3 KA;have Le:=HLD.out q w2 w3 _ ps a ca qs b cb Fs hq (kD.out w2 Kz) eH aJ)
   |(go_at_call 61;(with_reducible refine Le.mono ?_);rintro e w4 ⟨l,U,rfl,k1,k2,k3,k4,k5,k6⟩;have Xw:=KA.trans (k6.mono KA.size);obtain ⟨r0,r1,r2,r3,r4,r5,r6⟩:=HD.out w4 Xw))
 have HO:Hid (Q (.returned (.tuple #[.pointer (some ⟨l.bm,0,none⟩),.int .i64 0])) w4):=hd (by
  rw [<-hQ.out];have g1:=(kD.out w1 aH).size;have g3:=(kD.out w3 KA).size;refine ⟨l,U,rfl,k1,k2,fun k hk=>aai g3 (k5 k hk),fun k hk=> ?_,kD.out w4 Xw⟩;rw [k4]at hk;rcases hk with hk|hk
  ·have:w1.heap.size<=k:=(hq.mV k hk).1;exact .inl (by omega)
  ·exact .inr hk)
 clear k1 k2 k3 k4 k5 k6 hq aJ Le kA jx;go_wp2_with fail;exact HO.out
end Go.Proofs.YthopnfbjiifhhaaGreatDoor
