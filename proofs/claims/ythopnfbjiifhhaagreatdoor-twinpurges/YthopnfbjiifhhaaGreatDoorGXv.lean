/- Both scripts, tick by tick: together. -/
import Derived.Test.YthopnfbjiifhhaaGreatDoorGXu
set_option maxHeartbeats 8000000
set_option maxRecDepth 100000
namespace Go.Proofs.YthopnfbjiifhhaaGreatDoor
open Go.RowKit Go.Proofs.Tryz
def bu(c:ak)(l:List cK):HS:=⟨firstM c,0,-1,0,l⟩
def aP(c:ak)(l:List cK):Nat->HS
 |0=>bu c l
 |i+1=>Mo c (aP c l i)
structure t_(c:ak)(x:HS):Prop where
 T0:0<=x.T
 T1:x.T+1<=65536
 tk:x.m.tick<=65536
 d0:0<=x.due
 d1:x.due<=65536
 ok:pW c (bX c x).m (bX c x).T (bX c x).rest (bX c x).due
def wu(x:HS):Bool:=decide (x.due=0)&&decide (x.rest.length=0)
structure Alk(c:ak)(S T:List cK)(n:Nat):Prop where
 tg:∀i,i<=n->aG c (aP c S i).m
 few:∀i,i<=n->yl (aP c S i).m=true
 eM:∀i,i<=n->(aP c T i).m=(aP c S i).m
 eT:∀i,i<=n->(aP c T i).T=(aP c S i).T
 eO:∀i,i<=n->(aP c T i).O=(aP c S i).O
 no:∀i,i<n->(wu (aP c S i)&&wu (aP c T i))=false
 yes:wu (aP c S n)=true/\wu (aP c T n)=true
 gS:∀i,i<n->t_ c (aP c S i)
 gT:∀i,i<n->t_ c (aP c T i)
def uK(c:ak)(g:Loc)(sa:Option Addr)(sn sc:Nat)(ta:Option Addr)(tn tc:Nat)(a:Nat):List Value:=Dz c g++Dz c g++[.slice sa sn sc,.slice ta tn tc,.int .u64 (a:Int)]
theorem two_start{w w1 w2:World}{c:ak}{g:Loc}{sa ta:Option Addr}{S T:List cK}{ha hb:HL}{Ua Ub:Nat->Prop}{ca cb:Nat}(hg:∀k,sS g k->k<w.heap.size)(AF:∀k,ae ta=some k->k<w.heap.size)(jj:1<w.heap.size)
 (ka:ed w1 ha Ua sa ca (bu c S))(an:∀k,ha.fp Ua k->w.heap.size<=k)(b1:Below w.heap.size w w1)(kb:ed w2 hb Ub ta cb (bu c T))(bn:∀k,hb.fp Ub k->w1.heap.size<=k)(bK:∀k,hb.K k->w1.heap.size<=k\/k=1\/k=0\/sS g k\/ae ta=some k)(b2:Below w1.heap.size w1 w2):mC w w2 ha hb (bu c S) (bu c T):=
 ⟨Ua,Ub,sa,ca,ta,cb,ka.below b2,kb,fun k h1 h2=>by have:=ka.lt k h1;have:=bn k h2;omega,fun k h1 h2=>by
  have e1:=ka.lt k h1
  have e2:=an k h1;rcases bK k h2 with e|e|e|e|e
  ·omega
  ·omega
  ·omega
  ·have:=hg k e;omega
  ·have:=AF k e
   omega,fun k h1 h2=>by have:=ka.mV k h2;have:=bn k h1;omega,an,fun k h1=>aai b1.size (bn k h1),b1.trans (b2.mono b1.size)⟩
theorem together_any(c:ak)(g:Loc)(sa ta:Option Addr)(sc tc:Nat)(S T:List cK)(n:Nat)(a:Nat)(jA:a<18446744073709551616)(w:World)(hR:fD w c g)(hF:bR w)(hL:eQ w)(hS:Rd w sa (bB S))(hT:Rd w ta (bB T))(Fm:S.length<=sc)(Fo:T.length<=tc)(hg:∀k,sS g k->k<w.heap.size)(zD:∀k,ae sa=some k->k<w.heap.size)(AF:∀k,ae ta=some k->k<w.heap.size)
 (hm:(jt c).1=0)(hb:rZ (nE c))(Fl:qI (nE c)=(c,0,0))(sr:∀x∈c.labels,x<18446744073709551616)(hj:∀p,p<c.procs.length->eZ.yH (cd c p))(hA:Alk c S T n):
 Calls prog 11 #[.agg (uK c g sa S.length sc ta T.length tc a).toArray] w fun e w'=>e=.returned (.tuple #[.bool true,.int .i64 (aP c S n).T])/\Below w.heap.size w w':=by
 have ai:=aA w (.cells (uK c g sa S.length sc ta T.length tc a).toArray 40);have hx:=aae w (.cells (uK c g sa S.length sc ta T.length tc a).toArray 40);obtain ⟨W0,aD⟩:=Haa (w.alloc (.cells (uK c g sa S.length sc ta T.length tc a).toArray 40));rw [aD.out]at ai hx;have bu:W0.heap.size=w.heap.size+1:=by rw [<-aD.out];simp
 have rz:=Us hm sr hj;have uU:Hid (∀W,Below W0.heap.size W0 W->bR W/\eQ W):=hd (fun W hb=>⟨bR.mod hF (Mod.aS (fun _=>False) (ai.trans (hb.mono ai.size))) (fun h=>h),eQ.mod hL (Mod.aS (fun _=>False) (ai.trans (hb.mono ai.size))) (fun h=>h)⟩);have gK:∀k,sS g k->k<W0.heap.size:=fun k hk=>aam (hg k hk) ai.size
 have hsl:∀k,ae sa=some k->k<W0.heap.size:=fun k hk=>aam (zD k hk) ai.size
 have AD:∀k,ae ta=some k->k<W0.heap.size:=fun k hk=>aam (AF k hk) ai.size
 have jj:1<W0.heap.size:=aaj W0 _ ((uU.out W0 (aak _ _)).1 0 (by decide));have Eh:=TV c g sa sc S W0.drew (hR.below (ai.trans ((fu W0).mono ai.size))) (uU.out _ (fu W0)).1 (uU.out _ (fu W0)).2 (hS.below (ai.trans ((fu W0).mono ai.size))) Fm gK hsl hm hb Fl sr hj;obtain ⟨bx,aT⟩:=Haa w.heap.size;rw [aT.out]at hx bu;obtain ⟨G,hG⟩:∃G:Nat->Nat->Nat->World->Prop,Hid (∀ba bb i W,G ba bb i W↔∃ha hb:HL,ha.bh=ba/\hb.bh=bb/\ha.c=c/\ha.l.c=c/\hb.c=c/\hb.l.c=c/\mC W0 W ha hb (aP c S i) (aP c T i)):=⟨fun ba bb i W=>∃ha hb:HL,ha.bh=ba/\hb.bh=bb/\ha.c=c/\ha.l.c=c/\hb.c=c/\hb.l.c=c/\mC W0 W ha hb (aP c S i) (aP c T i),hd (fun _ _ _ _=>Iff.rfl)⟩
 have lZ:Hid (∀W,Below W0.heap.size W0 W->∀j u,(uK c g sa S.length sc ta T.length tc a).toArray[j]?=some u->W.cell? ⟨bx,j,none⟩=some u):=hd (fun W hb j u hj=>by
  rw [aaa _ _ _ _ _ _ ((hb.block bx (by omega)).trans hx)]
  exact hj)
 have H1:Hid (∀e w1,Kg W0.drew c g sa S e w1->∃ba,e=.returned (.pointer (some ⟨ba,0,none⟩))/\Hid (Below W0.heap.size W0 w1)/\∃N:Ending->World->Prop,Calls prog 18 #[ct c g,.slice ta T.length tc] w1 N/\Hid (∀e w2,N e w2->∃bb,e=.returned (.pointer (some ⟨bb,0,none⟩))/\Hid (G ba bb 0 w2))):=hd (fun e w1 ho=>by
  obtain ⟨ha,Ua,ca,rfl,ka,ea,la,an,aK,b1⟩:=ho;have tj:Below W0.heap.size W0 w1:=cC b1;have aR:=ai.trans (tj.mono ai.size);refine ⟨ha.bh,rfl,hd tj,_,TV c g ta tc T w1 (hR.below aR) (uU.out _ tj).1 (uU.out _ tj).2 (hT.below aR) Fo (fun k hk=>aam (gK k hk) tj.size) (fun k hk=>aam (AD k hk) tj.size) hm hb Fl sr hj,hd (fun e w2 ho=> ?_)⟩;obtain ⟨eW,Ub,cb,rfl,kb,eb,lb,bn,bK,b2⟩:=ho
  exact ⟨eW.bh,rfl,hd ((hG.out _ _ _ _).2 ⟨ha,eW,rfl,rfl,ea,la,eb,lb,two_start gK AD jj ka (fun k hk=>an k hk) tj kb bn bK b2⟩)⟩)
 have HP:Hid (∀ba bb i W,G ba bb i W->i<=n->Calls prog 19 #[.pointer (some ⟨ba,0,none⟩),.pointer (some ⟨bb,0,none⟩),.int .u64 (a:Int)] W fun e w'=>e=.returned (.bool false)/\G ba bb i w'):=hd (fun ba bb i W fG hi=>by
  obtain ⟨ha,eW,rfl,rfl,ea,la,eb,lb,P⟩:=(hG.out _ _ _ _).1 fG;have I8:=hA.tg i hi
  refine (parted_no P (by rw [la];exact I8) (by rw [lb,hA.eM i hi];exact I8) (by rw [la];exact rz) (by rw [lb];exact rz) (by rw [ea];exact rz) (by rw [eb];exact rz) (hA.few i hi) (by rw [hA.eM i hi];exact hA.few i hi) a jA (hA.eT i hi) (hA.eO i hi) (by rw [ea,eb,hA.eM i hi])).mono fun e w' he=>⟨he.1,(hG.out _ _ _ _).2 ⟨ha,eW,rfl,rfl,ea,la,eb,lb,he.2⟩⟩)
 have IV:Hid (∀ba bb i W,G ba bb i W->Calls prog 20 #[.pointer (some ⟨ba,0,none⟩)] W (fun e w'=>e=.returned (.bool (wu (aP c S i)))/\W=w')/\Calls prog 20 #[.pointer (some ⟨bb,0,none⟩)] W (fun e w'=>e=.returned (.bool (wu (aP c T i)))/\W=w')):=hd (fun ba bb i W fG=>by
  obtain ⟨ha,eW,rfl,rfl,ea,la,eb,lb,Ua,Ub,s1,c1,s2,c2,P⟩:=(hG.out _ _ _ _).1 fG
  exact ⟨Uy P.a,Uy P.b⟩)
 have xq:Hid (∀ba bb i W,G ba bb i W->i<n->∃N:World->Prop,Calls prog 21 #[.pointer (some ⟨ba,0,none⟩)] W (fun e w'=>e=.returned (.tuple #[])/\N w')/\Hid (∀w1,N w1->∃N2:World->Prop,Calls prog 21 #[.pointer (some ⟨bb,0,none⟩)] w1 (fun e w'=>e=.returned (.tuple #[])/\N2 w')/\Hid (∀w2,N2 w2->G ba bb (i+1) w2))):=hd (fun ba bb i W fG hi=>by
  obtain ⟨ha,eW,rfl,rfl,ea,la,eb,lb,Ua,Ub,s1,c1,s2,c2,P⟩:=(hG.out _ _ _ _).1 fG;have g1:=hA.gS i hi;have g2:=hA.gT i hi;have I8:=hA.tg i (by omega);refine ⟨_,DQ P.a (by rw [la];exact I8) (by rw [la];exact rz) g1.T0 g1.T1 g1.tk g1.d0 g1.d1 (by rw [la];exact g1.ok),hd (fun w1 o1=> ?_)⟩;obtain ⟨Va,Vb,t1,d1,t2,d2,P1⟩:=P.left o1;refine ⟨_,DQ P1.b (by rw [lb,hA.eM i (by omega)];exact I8) (by rw [lb];exact rz) g2.T0 g2.T1 g2.tk g2.d0 g2.d1 (by rw [lb];exact g2.ok),hd (fun w2 o2=>(hG.out _ _ _ _).2 ⟨ha,eW,rfl,rfl,ea,la,eb,lb, ?_⟩)⟩;have:=P1.right o2;rw [la,lb]at this
  exact this)
 have Bi:Hid (∀ba bb W,G ba bb n W->Calls prog 22 #[.pointer (some ⟨ba,0,none⟩)] W fun e w'=>(∃o,e=.returned (.agg #[.int .i64 (aP c S n).T,.int .i64 o]))/\Hid (Below w.heap.size w w')):=hd (fun ba bb W fG=>by
  obtain ⟨ha,eW,rfl,rfl,ea,la,eb,lb,Ua,Ub,s1,c1,s2,c2,P⟩:=(hG.out _ _ _ _).1 fG;refine (JU P.a).mono fun e w' he=>⟨⟨_,he.1⟩,hd ?_⟩
  obtain ⟨_,_,_,_,_,_,P2⟩:=P.left he.2
  exact ai.trans (P2.au.mono ai.size))
 have kD:Hid (∀ba bb i W,G ba bb i W->Below W0.heap.size W0 W):=hd (fun ba bb i W fG=>by
  obtain ⟨ha,eW,rfl,rfl,ea,la,eb,lb,Ua,Ub,s1,c1,s2,c2,P⟩:=(hG.out _ _ _ _).1 fG
  exact P.au)
 have lQ:=hd hA.no;have GS:=hd hA.yes;obtain ⟨Z,hZ⟩:=Haa ((aP c S n).T);rw [hZ.out]at Bi⊢
 have HV:Hid (∀W,Below W0.heap.size W0 W->W.cell? ⟨bx,0,none⟩=some (.slice g.la c.labels.length g.lc)/\W.cell? ⟨bx,1,none⟩=some (.slice g.ta c.table.length g.tc)/\W.cell? ⟨bx,2,none⟩=some (.int .i64 c.fuel)/\W.cell? ⟨bx,3,none⟩=some (.int .i64 c.lane)/\W.cell? ⟨bx,4,none⟩=some (.int .i64 c.aF)/\W.cell? ⟨bx,5,none⟩=some (.int .i64 c.log)/\W.cell? ⟨bx,6,none⟩=some (.slice g.pa c.procs.length g.pc)/\W.cell? ⟨bx,7,none⟩=some (.slice g.la c.labels.length g.lc)/\W.cell? ⟨bx,8,none⟩=some (.slice g.ta c.table.length g.tc)/\W.cell? ⟨bx,9,none⟩=some (.int .i64 c.fuel)/\W.cell? ⟨bx,10,none⟩=some (.int .i64 c.lane)/\W.cell? ⟨bx,11,none⟩=some (.int .i64 c.aF)/\W.cell? ⟨bx,12,none⟩=some (.int .i64 c.log)/\W.cell? ⟨bx,13,none⟩=some (.slice g.pa c.procs.length g.pc)/\W.cell? ⟨bx,14,none⟩=some (.slice sa S.length sc)/\W.cell? ⟨bx,15,none⟩=some (.slice ta T.length tc)/\W.cell? ⟨bx,16,none⟩=some (.int .u64 (a:Int))):=hd (fun W hb=>by
  have h:=lZ.out W hb
  exact ⟨h 0 _ rfl,h 1 _ rfl,h 2 _ rfl,h 3 _ rfl,h 4 _ rfl,h 5 _ rfl,h 6 _ rfl,h 7 _ rfl,h 8 _ rfl,h 9 _ rfl,h 10 _ rfl,h 11 _ rfl,h 12 _ rfl,h 13 _ rfl,h 14 _ rfl,h 15 _ rfl,h 16 _ rfl⟩)
 obtain ⟨N1,iz⟩:∃N:Ending->World->Prop,Hid (Kg W0.drew c g sa S=N):=⟨_,rfl⟩;rw [iz.out]at Eh H1;obtain ⟨ls,q_⟩:=Haa S.length;obtain ⟨lt,af⟩:=Haa T.length;unfold ct a_ at Eh H1;unfold uK Dz at aD⊢;try dsimp only [List.cons_append,List.nil_append]at aD⊢
 rw [q_.out]at Eh HV aD⊢;rw [af.out]at H1 HV aD⊢;clear ai hx bu rz uU gK hsl AD jj hG lZ iz hA hR hF hL hS hT Fm Fo hg zD AF hm hb Fl sr hj hZ q_ af;go_enter func11,ntmps11;go_upto_region 1 with fail;rw [aD.out,aT.out];clear aD aT;obtain ⟨c0,c1,c2,c3,c4,c5,c6,c7,c8,c9,lV,lW,lX,j_,kM,IE,Fe⟩:=HV.out W0.drew (ck W0 1);go_step3;go_upto_region 1 with fail;go_cut [4,5,7,8,9,10,11,12,13,14,15,16] (fun v4 v5 _ _ _ _ _ _ _ _ _ _ wy=>∃ba bb:Nat,v4=.pointer (some ⟨ba,0,none⟩)/\v5=.pointer (some ⟨bb,0,none⟩)/\Hid (G ba bb 0 wy))
 case first=>
  clear HP IV xq Bi kD lQ GS
  go_region_law (first
   |(go_simp;(with_reducible refine Eh.mono ?_);rintro e w1 he;obtain ⟨ba,rfl,aH,N,XC,fM⟩:=H1.out e w1 he;clear he Eh;obtain ⟨d0,d1,d2,d3,d4,d5,d6,d7,d8,d9,d10,d11,d12,d13,d14,d15,d16⟩:=HV.out w1 aH.out;replace aH:=hd aH)
   |(go_simp;(with_reducible refine XC.mono ?_);rintro e w2 he;obtain ⟨bb,rfl,HG⟩:=fM.out e w2 he;clear he XC))
  all_goals (
   go_wp2_with fail;go_meet
   case rel=>exact ⟨ba,bb,rfl,rfl,HG⟩)
 case rest=>
  obtain ⟨ba,bb,rfl,rfl,HG⟩:=hcut;clear Eh H1 c0 c1 c2 c3 c4 c5 c6 c7 c8 c9 lV lW lX j_ kM IE Fe;go_wp2_with fail;go_step3;go_wp2_with fail;go_loopg [6,17,18,19,20,21,22,23,24,25,26,27,28,29,30,31,32,33] n (fun k v6 _ _ _ _ _ _ _ _ _ _ _ _ _ _ _ _ _ wr=>v6=.bool true/\∃i:Nat,i+k=n/\Hid (G ba bb i wr))
  case atStart=>exact ⟨rfl,0,by omega,HG⟩
  case round=>
   obtain ⟨rfl,i,dh,HI⟩:=hrel;clear HG;have hp:=HP.out ba bb i wr HI.out (by omega);obtain ⟨-,-,-,-,-,-,-,-,-,-,-,-,-,-,-,-,Fe⟩:=HV.out wr (kD.out ba bb i wr HI.out);clear HV kD HI HP;go_upto_region 5 with(go_at_call 19;(with_reducible refine hp.mono ?_);rintro e w1 ⟨rfl,ED⟩;clear hp Fe);have nW:=hd ED;obtain ⟨Ar,CJ⟩:=IV.out ba bb i w1 ED;clear IV ED;by_cases jr:i<n
   · have gM:=lQ.out i jr;obtain ⟨N,mo,HN⟩:=xq.out ba bb i w1 nW.out jr;obtain ⟨oa,Si⟩:∃b,wu (aP c S i)=b:=⟨_,rfl⟩;obtain ⟨ob,uD⟩:∃b,wu (aP c T i)=b:=⟨_,rfl⟩;rw [Si,uD]at gM;rw [Si]at Ar;rw [uD]at CJ;clear lQ GS Bi xq Si uD nW;obtain ⟨K,rfl⟩:∃K,gk=K+1:=⟨gk-1,by omega⟩
     cases oa with
     |false=>
      clear gM CJ;go_upto_region 6 with(go_at_call 20;(with_reducible refine Ar.mono ?_);rintro e w2 ⟨rfl,rfl⟩;clear Ar);go_upto_region 7 with(go_at_call 21;(with_reducible refine mo.mono ?_);rintro e w3 ⟨rfl,ho⟩;clear mo;obtain ⟨N2,mQ,fM⟩:=HN.out w3 ho;clear HN ho);go_wp2_with (go_at_call 21;(with_reducible refine mQ.mono ?_);rintro e w4 ⟨rfl,ho⟩;clear mQ;have Sj:=hd (fM.out w4 ho);clear fM ho);go_roundg K
      case rel=>exact ⟨rfl,i+1,by omega,Sj⟩
      case measure=>omega
     |true=>
      obtain rfl:ob=false:=by simpa using gM
      clear gM
      go_upto_region 6 with(first
       |(go_at_call 20;(with_reducible refine Ar.mono ?_);rintro e w2 ⟨rfl,rfl⟩;clear Ar)
       |(go_at_call 20;(with_reducible refine CJ.mono ?_);rintro e w2 ⟨rfl,rfl⟩;clear CJ))
      go_upto_region 7 with(go_at_call 21;(with_reducible refine mo.mono ?_);rintro e w3 ⟨rfl,ho⟩;clear mo;obtain ⟨N2,mQ,fM⟩:=HN.out w3 ho;clear HN ho);go_wp2_with (go_at_call 21;(with_reducible refine mQ.mono ?_);rintro e w4 ⟨rfl,ho⟩;clear mQ;have Sj:=hd (fM.out w4 ho);clear fM ho);go_roundg K
      case rel=>exact ⟨rfl,i+1,by omega,Sj⟩
      case measure=>omega
   · obtain rfl:i=n:=by omega
     rw [GS.out.1]at Ar;rw [GS.out.2]at CJ;have qi:=Bi.out ba bb w1 nW.out;clear lQ GS Bi xq nW jr
     go_wp2_with (first
      |(go_at_call 20;(with_reducible refine Ar.mono ?_);rintro e w2 ⟨rfl,rfl⟩;clear Ar)
      |(go_at_call 20;(with_reducible refine CJ.mono ?_);rintro e w2 ⟨rfl,rfl⟩;clear CJ)
      |(go_at_call 22;(with_reducible refine qi.mono ?_);rintro e w2 ⟨⟨o,rfl⟩,HB⟩;clear qi;have kA:=fun W=>Vj Z o W))
     try rw [Exit.noGoto_ret]
     go_ret2;exact ⟨rfl,HB.out⟩
end Go.Proofs.YthopnfbjiifhhaaGreatDoor
