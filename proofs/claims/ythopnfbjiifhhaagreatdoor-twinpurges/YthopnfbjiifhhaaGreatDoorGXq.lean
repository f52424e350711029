/- Scripts and programs held against each other. -/
import Derived.Test.YthopnfbjiifhhaaGreatDoorGXp
import Derived.Test.YthopnfbjiifhhaaGreatDoorGXv
import Derived.Deep.DrawnRows
set_option maxHeartbeats 8000000
set_option maxRecDepth 100000
namespace Go.Proofs.YthopnfbjiifhhaaGreatDoor
open Go.RowKit Go.Proofs.Tryz
theorem eqS_same(a b:Option Addr)(c1 c2:Nat)(l:List cK)(w:World)(h1:Rd w a (bB l))(h2:Rd w b (bB l))(hl:l.length<=9223372036854775807):
 Calls prog 15 #[.slice a l.length c1,.slice b l.length c2] w fun e w'=>e=.returned (.bool true)/\∃n,w'=w.drewN n:=by
 have H1:=hd (fun i hi=>zW h1 i hi);have H2:=hd (fun i hi=>zW h2 i hi);clear h1 h2;generalize l.length=len at*
 go_enter func15,ntmps15;go_wp2_with fail;go_loopg [5,13,14,15,16,17,18,19,20,21,22,23,24,25] len (fun g _ v13 _ _ _ _ _ _ _ _ _ _ _ _ wr=>∃(i n:Nat),i+g=len/\v13=.int .i64 (i:Int)/\wr=w.drewN n)
 case atStart=>exact ⟨0,0,by omega,by go_num,rfl⟩
 case round=>
  obtain ⟨i,n,hi,rfl,rfl⟩:=hrel;by_cases h0:gk=0
  ·subst h0;have dH:decide ((i:Int)<(len:Int))=false:=by simp;omega
   have tQ:(len:Int)<=(i:Int):=by omega
   go_wp2_with fail;go_ret;exact ⟨rfl,n,rfl⟩
  ·have af:(i:Int)<(len:Int):=by omega
   obtain ⟨b1,o1,ea,x1,x2,x3⟩:=H1.out i (by omega);obtain ⟨b2,o2,eb,y1,y2,y3⟩:=H2.out i (by omega);generalize l.getD i (0,0,0)=x at*
   obtain ⟨xa,xb,xc⟩:=x;dsimp only at x1 x2 x3 y1 y2 y3;clear H1 H2;subst ea eb;go_upto_region 6 with fail;go_quiet (fail)
   go_wp2_with fail;go_roundg (gk-1)
   case rel=>exact ⟨i+1,n+nq,by omega,by go_num,by first|rfl|rw [World.drewN_drewN]⟩
   case measure=>omega
theorem XD{w:World}{a:Option Addr}{l:List Ins}(h:Rd w a (jK l))(i:Nat)(hi:i<l.length):∃b o,a=some ⟨b,o,none⟩/\w.cell? ⟨b,o+i*5,none⟩=some (.int .i64 (l.getD i default).op)/\w.cell? ⟨b,o+i*5+1,none⟩=some (.int .i64 (l.getD i default).a)/\w.cell? ⟨b,o+i*5+2,none⟩=some (.int .i64 (l.getD i default).b)/\w.cell? ⟨b,o+i*5+3,none⟩=some (.int .i64 (l.getD i default).c)/\w.cell? ⟨b,o+i*5+4,none⟩=some (.int .i64 (l.getD i default).dn):=by
 have p:=FI l i;obtain ⟨b,o,rfl,c0⟩:=h _ _ (p 0 hi (by omega));obtain ⟨_,_,e1,c1⟩:=h _ _ (p 1 hi (by omega));obtain ⟨_,_,e2,c2⟩:=h _ _ (p 2 hi (by omega));obtain ⟨_,_,e3,c3⟩:=h _ _ (p 3 hi (by omega));obtain ⟨_,_,e4,c4⟩:=h _ _ (p 4 hi (by omega))
 cases e1
 cases e2
 cases e3
 cases e4
 exact ⟨b,o,rfl,c0,c1,c2,c3,c4⟩
theorem eqN_same(a b:Option Addr)(c1 c2:Nat)(l:List Ins)(w:World)(h1:Rd w a (jK l))(h2:Rd w b (jK l))(hl:l.length<=9223372036854775807):
 Calls prog 29 #[.slice a l.length c1,.slice b l.length c2] w fun e w'=>e=.returned (.bool true)/\∃n,w'=w.drewN n:=by
 have H1:=hd (fun i hi=>XD h1 i hi);have H2:=hd (fun i hi=>XD h2 i hi);clear h1 h2;generalize l.length=len at*
 go_enter func29,ntmps29;go_wp2_with fail;go_loopg [5,13,14,15,16,17,18,19,20,21,22,23,24,25] len (fun g _ v13 _ _ _ _ _ _ _ _ _ _ _ _ wr=>∃(i n:Nat),i+g=len/\v13=.int .i64 (i:Int)/\wr=w.drewN n)
 case atStart=>exact ⟨0,0,by omega,by go_num,rfl⟩
 case round=>
  obtain ⟨i,n,hi,rfl,rfl⟩:=hrel;by_cases h0:gk=0
  ·subst h0;have dH:decide ((i:Int)<(len:Int))=false:=by simp;omega
   have tQ:(len:Int)<=(i:Int):=by omega
   go_wp2_with fail;go_ret;exact ⟨rfl,n,rfl⟩
  ·have af:(i:Int)<(len:Int):=by omega
   obtain ⟨b1,o1,ea,x1,x2,x3,x4,x5⟩:=H1.out i (by omega);obtain ⟨b2,o2,eb,y1,y2,y3,y4,y5⟩:=H2.out i (by omega);generalize l.getD i default=x at*
   obtain ⟨xa,xb,xc,xd,xe⟩:=x;dsimp only at x1 x2 x3 x4 x5 y1 y2 y3 y4 y5;clear H1 H2;subst ea eb;go_upto_region 6 with fail;go_quiet (fail)
   go_wp2_with fail;go_roundg (gk-1)
   case rel=>exact ⟨i+1,n+nq,by omega,by go_num,by first|rfl|rw [World.drewN_drewN]⟩
   case measure=>omega
theorem eqS_len(a b:Option Addr)(c1 c2 n m:Nat)(h:n≠m)(w:World):
 Calls prog 15 #[.slice a n c1,.slice b m c2] w fun e w'=>e=.returned (.bool false)/\∃n,w'=w.drewN n:=by
 have h':((n:Int)==(m:Int))=false:=by simp;omega
 clear h;go_enter func15,ntmps15;go_wp2_with fail;go_ret;exact ⟨rfl,0,rfl⟩
theorem twmay_any(c:ak)(g:Loc)(w:World)(hR:fD w c g)(hF:bR w)(hL:eQ w)(hm:(jt c).1=0):
 Calls prog 12 #[ct c g] w fun e w'=>e=.returned (.bool true)/\Below w.heap.size w w':=by
 have hx:=aae w (.cells (a_ c g) 26);have ai:=aA w (.cells (a_ c g) 26);obtain ⟨w1,aR⟩:=Haa (w.alloc (.cells (a_ c g) 26));obtain ⟨bx,aT⟩:=Haa w.heap.size;rw [aR.out]at hx ai;rw [aT.out]at hx;have hq:=Nn c g w1 (hR.below ai) (bR.mod hF (Mod.aS (fun _=>False) ai) (fun h=>h)) (eQ.mod hL (Mod.aS (fun _=>False) ai) (fun h=>h));rw [hm]at hq;obtain ⟨z,hz⟩:=Haa ((jt c).2);rw [hz.out]at hq;have HE:Hid (∀w',Below w1.heap.size w1 w'->Below w.heap.size w w'):=hd (fun w' h=>ai.trans (h.mono ai.size));have x:∀j u,(a_ c g)[j]?=some u->w1.cell? ⟨bx,j,none⟩=some u:=fun j u hj=>by rw [aaa _ _ _ _ _ _ hx];exact hj
 have x0:w1.cell? ⟨bx,0,none⟩=some (.slice g.la c.labels.length g.lc):=x 0 _ rfl;have x1:w1.cell? ⟨bx,1,none⟩=some (.slice g.ta c.table.length g.tc):=x 1 _ rfl;have x2:w1.cell? ⟨bx,2,none⟩=some (.int .i64 c.fuel):=x 2 _ rfl;have x3:w1.cell? ⟨bx,3,none⟩=some (.int .i64 c.lane):=x 3 _ rfl;have x4:w1.cell? ⟨bx,4,none⟩=some (.int .i64 c.aF):=x 4 _ rfl;have x5:w1.cell? ⟨bx,5,none⟩=some (.int .i64 c.log):=x 5 _ rfl;have x6:w1.cell? ⟨bx,6,none⟩=some (.slice g.pa c.procs.length g.pc):=x 6 _ rfl;unfold ct a_ at hq⊢;unfold a_ at aR;clear x hx ai hR hF hL hm hz;go_enter func12,ntmps12;go_upto_region 1 with fail;rw [aR.out,aT.out];go_wp2_with (go_at_call 23;(with_reducible refine hq.mono ?_);rintro e w2 ⟨rfl,hb⟩;replace hb:=hd (HE.out w2 hb);clear hq x0 x1 x2 x3 x4 x5 x6);go_ret;exact ⟨rfl,hb.out⟩
theorem ms_at{w:World}{c:ak}{g:Loc}(h:fD w c g)(i:Nat)(hi:i<c.procs.length):∃b o m,g.pa=some ⟨b,o,none⟩/\m∈g.ms/\m.p∈c.procs/\w.cell? ⟨b,o+i*2+1,none⟩=some (.slice m.a m.p.code.length m.c):=by
 have hl:i<g.ms.length:=by rw [<-mY,h.ps];exact hi
 obtain ⟨b,o,e,x⟩:=h.oN _ _ (oy g.ms i hl).2;have hm:g.ms.getD i default∈g.ms:=by rw [aac,aad hl];exact aaG _
 refine ⟨b,o,_,e,hm, ?_,x⟩;rw [<-h.ps];exact abk hm
theorem samep_any(c:ak)(g:Loc)(a:Nat)(ha:a<18446744073709551616)(w:World)(hR:fD w c g)(h1:c.labels.length<=1000)(h2:c.procs.length<=1000)(hl:∀x∈c.labels,x<18446744073709551616)(h3:∀p∈c.procs,p.code.length<=1000000):
 Calls prog 14 #[ct c g,ct c g,.int .u64 (a:Int)] w fun e w'=>e=.returned (.bool true)/\Below w.heap.size w w':=by
 have aH:=aA w (.cells (a_ c g) 26);have hx:=aae w (.cells (a_ c g) 26);have gi:(w.alloc (.cells (a_ c g) 26)).heap.size=w.heap.size+1:=by simp
 have aI:=aA (w.alloc (.cells (a_ c g) 26)) (.cells (a_ c g) 26);have hy:=aae (w.alloc (.cells (a_ c g) 26)) (.cells (a_ c g) 26);rw [gi]at hy;have xh:=(aI.block w.heap.size (by omega)).trans hx;have ai:=aH.trans (aI.mono aH.size);obtain ⟨w1,aR⟩:=Haa ((w.alloc (.cells (a_ c g) 26)).alloc (.cells (a_ c g) 26));have mT:w1.heap.size=w.heap.size+2:=by rw [<-aR.out];simp
 obtain ⟨bx,aT⟩:=Haa w.heap.size;rw [aR.out]at xh hy ai;have HE:Hid (∀w',Below w1.heap.size w1 w'->Below w.heap.size w w'):=hd (fun w' h=>ai.trans (h.mono ai.size));rw [aT.out]at xh hy mT
 have HX:Hid (∀p:cG w1,∀j u,(a_ c g)[j]?=some u->p.val.cell? ⟨bx,j,none⟩=some u/\p.val.cell? ⟨bx+1,j,none⟩=some u):=hd (fun p j u hj=>by
  rw [aaa _ _ _ _ _ _ ((p.au.block bx (by omega)).trans xh),aaa _ _ _ _ _ _ ((p.au.block (bx+1) (by omega)).trans hy)]
  exact ⟨hj,hj⟩)
 have uJ:Hid (∀p:cG w1,fD p.val c g):=hd (fun p=>hR.below (HE.out _ p.au));have HB:Hid (∀p:cG w1,∀W,Below p.val.heap.size p.val W->∃q:cG w1,W=q.val):=hd (fun p W h=>⟨⟨W,p.au.trans (h.mono p.au.size)⟩,rfl⟩);have Mr:Hid (∀(p:cG w1) (i:Int),Calls prog 17 #[ct c g,.int .i64 i,.int .u64 (a:Int)] p.val fun e w'=>e=.returned (.bool (View.jD (qD c) a i))/\∃q:cG w1,w'=q.val):=hd (fun p i=>(View.Nu (Gv (uJ.out p) h1 h2 hl) i a ha).mono fun e w' he=>⟨he.1,HB.out _ _ he.2⟩)
 have Ms:Hid (∀i,i<c.procs.length->∃b o ma mn mc,g.pa=some ⟨b,o,none⟩/\(∀p:cG w1,p.val.cell? ⟨b,o+i*2+1,none⟩=some (.slice ma mn mc))/\∀p:cG w1,Calls prog 29 #[.slice ma mn mc,.slice ma mn mc] p.val fun e w'=>e=.returned (.bool true)/\∃q:cG w1,w'=q.val):=hd (fun i hi=>by
  obtain ⟨b,o,m,e,hm,hp,hc⟩:=ms_at (uJ.out ⟨w1,fk w1⟩) i hi;refine ⟨b,o,m.a,m.p.code.length,m.c,e,fun p=> ?_,fun p=> ?_⟩
  ·exact (p.au.cell (p:=⟨b,o+i*2+1,none⟩) (aaj w1 _ hc)).trans hc
  ·refine (eqN_same m.a m.a m.c m.c m.p.code p.val ((uJ.out p).yx m hm) ((uJ.out p).yx m hm) (by have:=h3 _ hp;omega)).mono fun e w' he=>⟨he.1, ?_⟩
   obtain ⟨n,hn⟩:=he.2
   exact HB.out p _ (by rw [hn];exact ck p.val n))
 have uC:Hid (∀p:cG w1,∃q:cG w1,p.val.drew=q.val):=hd (fun p=>HB.out p _ (ck p.val 1));have HW:Hid (∀p:cG w1,Below bx w p.val):=hd (fun p=>by rw [<-aT.out];exact HE.out _ p.au);have wT:Nonempty (cG w1):=⟨⟨w1,fk w1⟩⟩;obtain ⟨pa,nP⟩:=Haa g.pa;obtain ⟨np,dI⟩:=Haa c.procs.length;rw [nP.out,dI.out]at Ms;have e0:(ct c g)=.agg #[.slice g.la c.labels.length g.lc,.slice g.ta c.table.length g.tc,.int .i64 c.fuel,.int .i64 c.lane,.int .i64 c.aF,.int .i64 c.log,.slice pa np g.pc]:=by rw [<-nP.out,<-dI.out];rfl
 have e1:(a_ c g)=#[.slice g.la c.labels.length g.lc,.slice g.ta c.table.length g.tc,.int .i64 c.fuel,.int .i64 c.lane,.int .i64 c.aF,.int .i64 c.log,.slice pa np g.pc]:=by rw [<-nP.out,<-dI.out];rfl
 have Xs:np<=1000:=by rw [<-dI.out];exact h2
 rw [e0]at Mr⊢;rw [e1]at HX aR;have x0:∀p:cG w1,p.val.cell? ⟨bx,0,none⟩=some (.slice g.la c.labels.length g.lc):=fun p=>(HX.out p 0 _ rfl).1
 have x1:∀p:cG w1,p.val.cell? ⟨bx,1,none⟩=some (.slice g.ta c.table.length g.tc):=fun p=>(HX.out p 1 _ rfl).1
 have x2:∀p:cG w1,p.val.cell? ⟨bx,2,none⟩=some (.int .i64 c.fuel):=fun p=>(HX.out p 2 _ rfl).1
 have x3:∀p:cG w1,p.val.cell? ⟨bx,3,none⟩=some (.int .i64 c.lane):=fun p=>(HX.out p 3 _ rfl).1
 have x4:∀p:cG w1,p.val.cell? ⟨bx,4,none⟩=some (.int .i64 c.aF):=fun p=>(HX.out p 4 _ rfl).1
 have x5:∀p:cG w1,p.val.cell? ⟨bx,5,none⟩=some (.int .i64 c.log):=fun p=>(HX.out p 5 _ rfl).1
 have x6:∀p:cG w1,p.val.cell? ⟨bx,6,none⟩=some (.slice pa np g.pc):=fun p=>(HX.out p 6 _ rfl).1
 have y6:∀p:cG w1,p.val.cell? ⟨bx+1,6,none⟩=some (.slice pa np g.pc):=fun p=>(HX.out p 6 _ rfl).2
 have z6:w1.cell? ⟨bx,6,none⟩=some (.slice pa np g.pc):=x6 ⟨w1,fk w1⟩;have WC:∃p:cG w1,w1=p.val:=⟨⟨w1,fk w1⟩,rfl⟩;clear aH hx gi aI hy xh ai mT HE HX uJ HB e0 e1 hR h1 h2 hl h3 dI nP;rw [aT.out];go_enter func14,ntmps14;go_upto_region 1 with fail;rw [aR.out,aT.out];go_wp2_with fail;go_loopg [7,11,12,13,14,15,16,17,18,19,20,21,22,23,24,25,26,27,28,29,30,31,32,33,34] np (fun g _ v11 _ _ _ _ _ _ _ _ _ _ _ _ _ _ _ _ _ _ _ _ _ _ _ wr=>∃(i:Nat),i+g=np/\v11=.int .i64 (i:Int)/\∃p:cG w1,wr=p.val)
 case atStart=>exact ⟨0,by omega,by go_num,WC⟩
 case round=>
  obtain ⟨i,hi,rfl,p,rfl⟩:=hrel;by_cases h0:gk=0
  ·subst h0;have dH:decide ((i:Int)<(np:Int))=false:=by simp;omega
   have tQ:(np:Int)<=(i:Int):=by omega
   clear x0 x1 x2 x3 x4 x5 x6 y6 z6 Mr Ms uC;go_wp2_with fail;go_ret;exact ⟨rfl,HW.out p⟩
  ·have af:(i:Int)<(np:Int):=by omega
   obtain ⟨b,o,ma,mn,mc,rfl,c6,q2⟩:=Ms.out i (by omega);have q1:=fun p=>Mr.out p (i:Int)
   obtain ⟨q0,nZ⟩:=uC.out p;generalize View.jD (qD c) a (i:Int)=s at q1;clear Ms Mr uC WC;go_upto_region 4 with fail;refine DE (α:=cG w1) cG.val (by kernel_rfl) (by kernel_rfl) q0 nZ.symm ?_
   cases s
   ·repeat(go_big_quiet_step (with_reducible exact q1 _))
    refine wpQuiet_nil ?_;rintro w2 ⟨p2,rfl⟩;clear x0 x1 x2 x3 x4 x5 x6 y6 z6 c6 q1 q2;go_wp2_with fail;go_roundg (gk-1)
    case rel=>exact ⟨i+1,by omega,by go_num,p2,rfl⟩
    case measure=>omega
   ·repeat(go_big_quiet_step (first|with_reducible exact q1 _|with_reducible exact q2 _))
    refine wpQuiet_nil ?_;rintro w2 ⟨p2,rfl⟩;clear x0 x1 x2 x3 x4 x5 x6 y6 z6 c6 q1 q2;go_wp2_with fail;go_roundg (gk-1)
    case rel=>exact ⟨i+1,by omega,by go_num,p2,rfl⟩
    case measure=>omega
attribute[local go_sem↓] Go.wp_at_zero Go.wp_at_succ
theorem TW(c:ak)(g:Loc)(sa ta:Option Addr)(sc tc:Nat)(S T:List cK)(a:Nat)(ha:a<18446744073709551616)(w:World)(hR:fD w c g)(hF:bR w)(hL:eQ w)(hS:Rd w sa (bB S))(hT:Rd w ta (bB T))(Fm:S.length<=1024)(Fo:T.length<=1024)
 (hm:(jt c).1=0)(h1:c.labels.length<=1000)(h2:c.procs.length<=1000)(h4:c.table.length<=1000000)(hl:∀x∈c.labels,x<18446744073709551616)(h3:∀p∈c.procs,p.code.length<=1000000)(r:Bool)(hr:(r=true/\dG (qD c) a S=dG (qD c) a T)\/(r=false/\(dG (qD c) a S).length≠(dG (qD c) a T).length)):
 Calls prog 8 #[.agg (uK c g sa S.length sc ta T.length tc a).toArray] w fun e w'=>e=.returned (.bool r)/\Below w.heap.size w w':=by
 have ai:=aA w (.cells (uK c g sa S.length sc ta T.length tc a).toArray 40);have hx:=aae w (.cells (uK c g sa S.length sc ta T.length tc a).toArray 40);obtain ⟨w1,aR⟩:=Haa (w.alloc (.cells (uK c g sa S.length sc ta T.length tc a).toArray 40));rw [aR.out]at ai hx;have bu:w1.heap.size=w.heap.size+1:=by rw [<-aR.out];simp
 have aX:=hd ai;have HE:Hid (∀W,Below w1.heap.size w1 W->Below w.heap.size w W):=hd (fun W h=>ai.trans (h.mono ai.size));obtain ⟨bx,aT⟩:=Haa w.heap.size;rw [aT.out]at hx bu
 have lZ:Hid (∀W,Below w1.heap.size w1 W->∀j u,(uK c g sa S.length sc ta T.length tc a).toArray[j]?=some u->W.cell? ⟨bx,j,none⟩=some u):=hd (fun W hb j u hj=>by
  rw [aaa _ _ _ _ _ _ ((hb.block bx (by omega)).trans hx)]
  exact hj)
 obtain ⟨P1,Mt⟩:=Haa (dG (qD c) a S);obtain ⟨P2,tA⟩:=Haa (dG (qD c) a T);have kZ:Hid (P1.length<=1024/\P2.length<=1024):=hd ⟨by rw [<-Mt.out];exact aai (Gj _ _ _) Fm,by rw [<-tA.out];exact aai (Gj _ _ _) Fo⟩;have H1:Hid (∀W,Below w1.heap.size w1 W->Calls prog 12 #[ct c g] W fun e w'=>e=.returned (.bool true)/\Below w1.heap.size w1 w'):=hd (fun W hb=>(twmay_any c g W (hR.below (HE.out W hb)) (bR.mod hF (Mod.aS (fun _=>False) (HE.out W hb)) (fun h=>h)) (eQ.mod hL (Mod.aS (fun _=>False) (HE.out W hb)) (fun h=>h)) hm).mono fun e w' he=>⟨he.1,hb.trans (he.2.mono hb.size)⟩)
 have H2:Hid (∀W,Below w1.heap.size w1 W->Calls prog 13 #[ct c g,ct c g] W fun e w'=>e=.returned (.bool true)/\Below w1.heap.size w1 w'):=hd (fun W hb=>by
  have hq:=skel_any c c g g W (hR.below (HE.out W hb)) (hR.below (HE.out W hb)) ⟨by omega,by omega,by omega⟩;rw [show Mj c c=true by simp [Mj,IW]]at hq
  exact hq.mono fun e w' he=>⟨he.1,hb.trans (he.2.mono hb.size)⟩)
 have H3:Hid (∀W,Below w1.heap.size w1 W->Calls prog 14 #[ct c g,ct c g,.int .u64 (a:Int)] W fun e w'=>e=.returned (.bool true)/\Below w1.heap.size w1 w'):=hd (fun W hb=>(samep_any c g a ha W (hR.below (HE.out W hb)) h1 h2 hl h3).mono fun e w' he=>⟨he.1,hb.trans (he.2.mono hb.size)⟩)
 have H4:Hid (∀W,Below w1.heap.size w1 W->Calls prog 6 #[ct c g,.slice sa S.length sc,.int .u64 (a:Int)] W fun e w'=>∃a' c',e=.returned (.slice a' P1.length c')/\Hid (Below w1.heap.size w1 w'/\∀W',Below w'.heap.size w' W'->Rd W' a' (bB P1))):=hd (fun W hb=>(Jr (Gv (hR.below (HE.out W hb)) h1 h2 hl) a ha sa sc S (hS.below (HE.out W hb)) (by omega)).mono fun e w' he=>by
  obtain ⟨a',c',e1,e2,e3⟩:=he;rw [Mt.out]at e1 e2
  exact ⟨a',c',e1,hd ⟨hb.trans (e3.mono hb.size),fun W' h=>e2.row.rd.below h⟩⟩)
 have H5:Hid (∀W,Below w1.heap.size w1 W->Calls prog 6 #[ct c g,.slice ta T.length tc,.int .u64 (a:Int)] W fun e w'=>∃a' c',e=.returned (.slice a' P2.length c')/\Hid (Below w1.heap.size w1 w'/\Rd w' a' (bB P2)/\Below W.heap.size W w')):=hd (fun W hb=>(Jr (Gv (hR.below (HE.out W hb)) h1 h2 hl) a ha ta tc T (hT.below (HE.out W hb)) (by omega)).mono fun e w' he=>by
  obtain ⟨a',c',e1,e2,e3⟩:=he;rw [tA.out]at e1 e2
  exact ⟨a',c',e1,hd ⟨hb.trans (e3.mono hb.size),e2.row.rd,e3⟩⟩)
 rw [Mt.out,tA.out]at hr
 have H6:Hid (∀a1 c1 a2 c2 W,Below w1.heap.size w1 W->Rd W a1 (bB P1)->Rd W a2 (bB P2)->Calls prog 15 #[.slice a1 P1.length c1,.slice a2 P2.length c2] W fun e w'=>e=.returned (.bool r)/\Below w1.heap.size w1 w'):=hd (fun a1 c1 a2 c2 W hb r1 r2=>by
  rcases hr with⟨rfl,e⟩|⟨rfl,e⟩
  ·rw [<-e]at r2⊢;refine (eqS_same a1 a2 c1 c2 P1 W r1 r2 (by have:=kZ.out.1;omega)).mono fun e w' he=>⟨he.1, ?_⟩
   obtain ⟨n,hn⟩:=he.2;rw [hn];exact hb.trans ((ck W n).mono hb.size)
  ·refine (eqS_len a1 a2 c1 c2 P1.length P2.length e W).mono fun e w' he=>⟨he.1, ?_⟩
   obtain ⟨n,hn⟩:=he.2;rw [hn]
   exact hb.trans ((ck W n).mono hb.size))
 obtain ⟨n1,mo⟩:=Haa P1.length;obtain ⟨n2,mQ⟩:=Haa P2.length;obtain ⟨ls,q_⟩:=Haa S.length;obtain ⟨lt,af⟩:=Haa T.length;unfold uK Dz at lZ aR⊢;try dsimp only [List.cons_append,List.nil_append]at lZ aR⊢
 rw [mo.out]at H4 H6;rw [mQ.out]at H5 H6;rw [q_.out]at lZ H4 aR Fm⊢;rw [af.out]at lZ H5 aR Fo⊢
 have HV:Hid (∀W,Below w1.heap.size w1 W->W.cell? ⟨bx,0,none⟩=some (.slice g.la c.labels.length g.lc)/\W.cell? ⟨bx,1,none⟩=some (.slice g.ta c.table.length g.tc)/\W.cell? ⟨bx,2,none⟩=some (.int .i64 c.fuel)/\W.cell? ⟨bx,3,none⟩=some (.int .i64 c.lane)/\W.cell? ⟨bx,4,none⟩=some (.int .i64 c.aF)/\W.cell? ⟨bx,5,none⟩=some (.int .i64 c.log)/\W.cell? ⟨bx,6,none⟩=some (.slice g.pa c.procs.length g.pc)/\W.cell? ⟨bx,7,none⟩=some (.slice g.la c.labels.length g.lc)/\W.cell? ⟨bx,8,none⟩=some (.slice g.ta c.table.length g.tc)/\W.cell? ⟨bx,9,none⟩=some (.int .i64 c.fuel)/\W.cell? ⟨bx,10,none⟩=some (.int .i64 c.lane)/\W.cell? ⟨bx,11,none⟩=some (.int .i64 c.aF)/\W.cell? ⟨bx,12,none⟩=some (.int .i64 c.log)/\W.cell? ⟨bx,13,none⟩=some (.slice g.pa c.procs.length g.pc)/\W.cell? ⟨bx,14,none⟩=some (.slice sa ls sc)/\W.cell? ⟨bx,15,none⟩=some (.slice ta lt tc)/\W.cell? ⟨bx,16,none⟩=some (.int .u64 (a:Int))):=hd (fun W hb=>by
  have h:=lZ.out W hb
  exact ⟨h 0 _ rfl,h 1 _ rfl,h 2 _ rfl,h 3 _ rfl,h 4 _ rfl,h 5 _ rfl,h 6 _ rfl,h 7 _ rfl,h 8 _ rfl,h 9 _ rfl,h 10 _ rfl,h 11 _ rfl,h 12 _ rfl,h 13 _ rfl,h 14 _ rfl,h 15 _ rfl,h 16 _ rfl⟩)
 unfold ct a_ at H1 H2 H3 H4 H5;clear hR hF hL hS hT hm h1 h2 h3 h4 hl hr ai hx bu lZ Mt tA kZ aX ha mo mQ q_ af;have b0:=hd (show Below w1.heap.size w1 w1.drew from ck w1 1);have m1:=H1.out _ b0.out;obtain ⟨d0,d1,d2,d3,d4,d5,d6,d7,d8,d9,d10,d11,d12,d13,d14,d15,d16⟩:=HV.out w1.drew b0.out;have fW:(ls:Int)<=1024:=by omega
 have CS:(lt:Int)<=1024:=by omega
 clear Fm Fo;go_enter func8,ntmps8;go_upto_region 1 with fail;rw [aR.out,aT.out];clear aR aT;go_region_held3 (fun w'=>w'.cell? ⟨bx,0,none⟩=some (.slice g.la c.labels.length g.lc)/\w'.cell? ⟨bx,1,none⟩=some (.slice g.ta c.table.length g.tc)/\w'.cell? ⟨bx,2,none⟩=some (.int .i64 c.fuel)/\w'.cell? ⟨bx,3,none⟩=some (.int .i64 c.lane)/\w'.cell? ⟨bx,4,none⟩=some (.int .i64 c.aF)/\w'.cell? ⟨bx,5,none⟩=some (.int .i64 c.log)/\w'.cell? ⟨bx,6,none⟩=some (.slice g.pa c.procs.length g.pc)/\w'.cell? ⟨bx,7,none⟩=some (.slice g.la c.labels.length g.lc)/\w'.cell? ⟨bx,8,none⟩=some (.slice g.ta c.table.length g.tc)/\w'.cell? ⟨bx,9,none⟩=some (.int .i64 c.fuel)/\w'.cell? ⟨bx,10,none⟩=some (.int .i64 c.lane)/\w'.cell? ⟨bx,11,none⟩=some (.int .i64 c.aF)/\w'.cell? ⟨bx,12,none⟩=some (.int .i64 c.log)/\w'.cell? ⟨bx,13,none⟩=some (.slice g.pa c.procs.length g.pc)/\w'.cell? ⟨bx,14,none⟩=some (.slice sa ls sc)/\w'.cell? ⟨bx,15,none⟩=some (.slice ta lt tc)/\w'.cell? ⟨bx,16,none⟩=some (.int .u64 (a:Int))) (go_keep)
  (first
   |(go_at_call 12;(with_reducible refine m1.mono ?_);rintro e k1 ⟨rfl,h⟩;replace h:=hd h;have m2:=H1.out k1 h.out;obtain ⟨d0,d1,d2,d3,d4,d5,d6,d7,d8,d9,d10,d11,d12,d13,d14,d15,d16⟩:=HV.out k1 h.out;clear m1 H1)
   |(go_at_call 12;(with_reducible refine m2.mono ?_);rintro e k2 ⟨rfl,h⟩;replace h:=hd h;have m3:=H2.out k2 h.out;obtain ⟨d0,d1,d2,d3,d4,d5,d6,d7,d8,d9,d10,d11,d12,d13,d14,d15,d16⟩:=HV.out k2 h.out;clear m2 H2)
   |(go_at_call 13;(with_reducible refine m3.mono ?_);rintro e k3 ⟨rfl,h⟩;replace h:=hd h;have m4:=H3.out k3 h.out;obtain ⟨d0,d1,d2,d3,d4,d5,d6,d7,d8,d9,d10,d11,d12,d13,d14,d15,d16⟩:=HV.out k3 h.out;clear m3 H3)
   |(go_at_call 14;(with_reducible refine m4.mono ?_);rintro e k4 ⟨rfl,h⟩;replace h:=hd h;have m5:=H4.out k4 h.out;obtain ⟨d0,d1,d2,d3,d4,d5,d6,d7,d8,d9,d10,d11,d12,d13,d14,d15,d16⟩:=HV.out k4 h.out;clear m4 H4)
   |(go_at_call 6;(with_reducible refine m5.mono ?_);rintro e k5 ⟨a1,c1,rfl,h⟩;have m6:=H5.out k5 h.out.1;obtain ⟨d0,d1,d2,d3,d4,d5,d6,d7,d8,d9,d10,d11,d12,d13,d14,d15,d16⟩:=HV.out k5 h.out.1;clear m5 H5)
   |(go_at_call 6;(with_reducible refine m6.mono ?_);rintro e k6 ⟨a2,c2,rfl,h'⟩;have m7:=H6.out a1 c1 a2 c2 k6 h'.out.1 (h.out.2 k6 h'.out.2.2) h'.out.2.1;obtain ⟨d0,d1,d2,d3,d4,d5,d6,d7,d8,d9,d10,d11,d12,d13,d14,d15,d16⟩:=HV.out k6 h'.out.1;clear m6 H6)
   |(go_at_call 15;(with_reducible refine m7.mono ?_);rintro e k7 ⟨rfl,h7⟩;obtain ⟨d0,d1,d2,d3,d4,d5,d6,d7,d8,d9,d10,d11,d12,d13,d14,d15,d16⟩:=HV.out k7 h7;have HZ:=hd (HE.out k7 h7);clear m7 h7))
 all_goals (
  clear d0 d1 d2 d3 d4 d5 d6 d7 d8 d9 d10 d11 d12 d13 d14 d15 d16;go_wp2_with fail;go_ret
  exact ⟨rfl,HZ.out⟩)
end Go.Proofs.YthopnfbjiifhhaaGreatDoor
