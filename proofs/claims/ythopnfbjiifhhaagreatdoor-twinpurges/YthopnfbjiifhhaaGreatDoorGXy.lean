/- The walk of TwinPurges. -/
import Derived.Test.YthopnfbjiifhhaaGreatDoorGXx
import Derived.ProofKit
import Derived.OpenShut
import Derived.Lib.OwnBridge
set_option maxHeartbeats 16000000
set_option maxRecDepth 100000
namespace Go.Proofs.YthopnfbjiifhhaaGreatDoor
open Go.Proofs.Tryz
section
open Go.RowKit
theorem Fv.oneAt{w W:World}{P l:List cK}{a7:Option Addr}{c7:Nat}{a2:Option Addr}{c2 wb wk:Nat}{a1:Option Addr}{n1 c1:Nat}{zs:List Value}(h:Fv w P l a7 c7 a2 c2 wb wk a1 n1 c1 zs W)(i:Nat)(hi:i<P.length)(hn:i<n1)(hz:∀j,i*3<=j->zs[j]?=(bB P)[j]?):∃g,a1=some ⟨g,0,none⟩/\W.cell? ⟨g,i*3,none⟩=some (.int .i64 (P.getD i (0,0,0)).1)/\W.cell? ⟨g,i*3+1,none⟩=some (.int .i64 (P.getD i (0,0,0)).2.1)/\W.cell? ⟨g,i*3+2,none⟩=some (.int .i64 (P.getD i (0,0,0)).2.2):=by
 obtain ⟨g,rfl⟩:=h.row.head (by omega);obtain ⟨e0,e1,e2⟩:=VJ P i hi;rw [abF]at e0 e1 e2;exact ⟨g,rfl,Ny h.row _ _ ((hz _ (by omega)).trans e0),Ny h.row _ _ ((hz _ (by omega)).trans e1),Ny h.row _ _ ((hz _ (by omega)).trans e2)⟩
theorem set3_keep{zs xs:List Value}{i:Nat}(hz:∀j,i*3<=j->zs[j]?=xs[j]?)(v0 v1 v2:Value):∀j,(i+1)*3<=j->(((zs.set (i*3) v0).set (i*3+1) v1).set (i*3+2) v2)[j]?=xs[j]?:=fun j hj=>by
 rw [aa9 (by omega),aa9 (by omega),aa9 (by omega)];exact hz j (by omega)
theorem twinPurges_any{w:World}{cs:List Value}{c:View.l_}(hc:View.fE w cs c)(a:Nat)(ha:a<18446744073709551616)(sa:Option Addr)(sc:Nat)(l:List cK)(hS:Rd w sa (bB l))(yQ:l.length<=17592186044416)(hF:bR w)(hL:eQ w):
 Calls prog 3 #[.agg cs.toArray,.slice sa l.length sc,.int .u64 (a:Int)] w fun e w'=>e=.returned (.bool true)/\Below w.heap.size w w':=by
 have HC:Hid (∀W,Below w.heap.size w W->View.fE W cs c):=hd (fun W hb=>View.fE.below hb hc);have HS:Hid (∀W,Below w.heap.size w W->Rd W sa (bB l)):=hd (fun W hb=>hS.below hb);obtain ⟨v0,v1,v2,v3,v4,v5,v6,rfl,-,-⟩:=hc;have hx:=aae w (.cells #[v0,v1,v2,v3,v4,v5,v6] 26);have ai:=aA w (.cells #[v0,v1,v2,v3,v4,v5,v6] 26);obtain ⟨w1,aR⟩:=Haa (w.alloc (.cells #[v0,v1,v2,v3,v4,v5,v6] 26));obtain ⟨bx,aT⟩:=Haa w.heap.size;rw [aR.out]at hx ai;have cD:w1.heap.size=bx+1:=by rw [<-aR.out,<-aT.out];simp
 have aX:Hid (∀W,Below w1.heap.size w1 W->Below w.heap.size w W):=hd (fun W h=>ai.trans (h.mono ai.size))
 have HV:Hid (∀W,Below w1.heap.size w1 W->W.cell? ⟨bx,0,none⟩=some v0/\W.cell? ⟨bx,1,none⟩=some v1/\W.cell? ⟨bx,2,none⟩=some v2/\W.cell? ⟨bx,3,none⟩=some v3/\W.cell? ⟨bx,4,none⟩=some v4/\W.cell? ⟨bx,5,none⟩=some v5/\W.cell? ⟨bx,6,none⟩=some v6):=hd (fun W hb=>by
  rw [aT.out]at hx;have h:∀j u,#[v0,v1,v2,v3,v4,v5,v6][j]?=some u->W.cell? ⟨bx,j,none⟩=some u:=fun j u hj=>by
   rw [aaa _ _ _ _ _ _ ((hb.block bx (by omega)).trans hx)];exact hj
  exact ⟨h 0 _ rfl,h 1 _ rfl,h 2 _ rfl,h 3 _ rfl,h 4 _ rfl,h 5 _ rfl,h 6 _ rfl⟩)
 have haw:=taw_any w1 (bR.mod hF (Mod.aS (fun _=>False) ai) (fun h=>h)) (eQ.mod hL (Mod.aS (fun _=>False) ai) (fun h=>h));obtain ⟨P,hP⟩:=Haa (dG c a l)
 have Fp:Hid (l.length<=1048576->∀W,Below w1.heap.size w1 W->Calls prog 5 #[.agg #[v0,v1,v2,v3,v4,v5,v6],.slice sa l.length sc,.int .u64 (a:Int)] W (zX W P)):=hd (fun hl W hb=>by
  rw [<-hP.out]
  exact rpurge_any (HC.out W (aX.out W hb)) a ha sa sc l (HS.out W (aX.out W hb)) hl)
 have DC:Hid (l.length<=1048576->∀W wb wk,Below w1.heap.size w1 W->Rd W (some ⟨wb,0,none⟩) (bB l)->Calls prog 6 #[.agg #[v0,v1,v2,v3,v4,v5,v6],.slice (some ⟨wb,0,none⟩) l.length wk,.int .u64 (a:Int)] W (zX W P)):=hd (fun hl W wb wk hb hr=>by
  rw [<-hP.out]
  exact Jr (HC.out W (aX.out W hb)) a ha _ wk l hr hl)
 have ui:Hid (P.length<=l.length):=hd (by rw [<-hP.out];exact Gj _ _ _);have sW:Hid (∀W,Below w1.heap.size w1 W->Rd W sa (bB l)):=hd (fun W hb=>HS.out W (aX.out W hb));clear hS hF hL HC hx ai cD hP ha;go_enter func3,ntmps3;go_upto_region 1 with fail;rw [aR.out,aT.out];clear aR;go_upto_region 3 with(go_at_call 4;(with_reducible refine haw.mono ?_);rintro e w2 ⟨rfl,hb⟩;have B2:=hd hb;clear haw hb);obtain ⟨N,hN⟩:=Haa l.length;rw [hN.out]at yQ Fp DC ui⊢;by_cases KH:1048576<N
 ·have hq:(1048576:Int)<(N:Int):=by omega
  have HZ:=hd (aX.out w2 B2.out);clear Fp DC ui sW HV aX B2 KH;go_wp2_with fail;go_ret;exact ⟨rfl,HZ.out⟩
 have hq:decide ((1048576:Int)<(N:Int))=false:=by simp;omega
 have hq':(N:Int)<=1048576:=by omega
 have iz:N<=1048576:=by omega
 replace Fp:=hd (Fp.out iz);replace DC:=hd (DC.out iz);clear KH yQ;have hrp:=Fp.out w2 B2.out;obtain ⟨d0,d1,d2,d3,d4,d5,d6⟩:=HV.out w2 B2.out;go_upto_region 6 with(go_at_call 5;(with_reducible refine hrp.mono ?_);rintro e w3 ⟨a7,c7,rfl,o3,hb⟩;have B3:=hd (B2.out.trans (hb.mono B2.out.size));have O3:=hd o3;clear hrp hb o3 d0 d1 d2 d3 d4 d5 d6);have B3w:=hd (aX.out w3 B3.out);obtain ⟨w4,xa,xc,w5,RO⟩:=roomy (by decide) underlying27 JD rfl (by omega) w3 (c:=sc) (sW.out w3 B3.out) (by rw [JT,hN.out]) (spC_one l) (n:=N) (by omega);obtain ⟨wa,wk,w6,mh,bI,Ko,ko⟩:=pushM underlying27 JD rfl (by omega) RO.row (by omega) zz (m:=2) (by omega) rfl (by decide) (cs:=#[.int .i64 77,.int .i64 0,.int .i64 0,.int .i64 77,.int .i64 0,.int .i64 0]) rfl;have kX:=RO.made;have Al:=hd RO.ap;obtain ⟨wb,rfl⟩:=bI.head (by omega);replace mh:=hd mh;have nX:∀k,ae (some (⟨wb,0,none⟩:Addr))=some k->w3.heap.size<=k:=fun k hk=>by
  rcases ko k hk with h|h
  ·exact RO.new _ h
  ·exact aai RO.b2.size h
 have Sk:Below w3.heap.size w3 w6:=RO.b2.trans (Ko.below (B:=w3.heap.size) RO.b2.size (fun k _ hk=>RO.new k hk));have B6:=hd (B3.out.trans (Sk.mono B3.out.size));have O6:Hid (bT w.heap.size w6 [(⟨32,3,some ⟨wb,0,none⟩,N+2,wk,bB l++zz⟩:gV),(⟨32,3,a7,P.length,c7,bB P⟩:gV)]):=hd (bT.plus ((bT.nil w.heap.size w3).cons (d:=⟨32,3,a7,P.length,c7,bB P⟩) O3.out.row (fun k hk=>aai (aX.out w2 B2.out).size (O3.out.ge k hk)) (fun d hd=>by cases hd)) B3w.out.size Sk bI nX);have Rb:N+2<=wk:=bI.zR;have hNw:(N:Int)<=(wk:Int):=by omega
 have hNw2:(N:Int)+2<=(wk:Int):=by omega
 clear bI Ko ko nX RO Sk O3 B3 B3w B2 Fp;go_upto_region 8 with(first|(at_builtin;refine dZ rfl _ _ _ rfl _ _ _ _ rfl rfl Al.out ?_;clear Al)|(at_builtin;refine dZ rfl _ _ _ rfl _ _ _ _ rfl rfl mh.out ?_;clear mh));clear kX;have HQ:Hid (∀W,Below w6.heap.size w6 W->Rd W (some ⟨wb,0,none⟩) (bB l)):=hd (fun W h=>(Row.short (O6.out.below h).head (by rw [JT,hN.out])).rd);have B6w:=hd (aX.out w6 B6.out);have yX:=DC.out w6 wb wk B6.out (HQ.out w6 (aak _ _));obtain ⟨d0,d1,d2,d3,d4,d5,d6⟩:=HV.out w6 B6.out;go_upto_region 9 with(go_at_call 6;(with_reducible refine yX.mono ?_);rintro e w7 ⟨a1,c1,rfl,o7,hb⟩;have B7:=hd (B6.out.trans (hb.mono B6.out.size));have Q7:=hd hb;have O7:=hd (O6.out.plus B6w.out.size hb (d:=⟨32,3,a1,P.length,c1,bB P⟩) o7.row o7.ge);clear yX hb o7 d0 d1 d2 d3 d4 d5 d6);have Mv:=hd (aX.out w7 B7.out);have yX:=DC.out w7 wb wk B7.out (HQ.out w7 Q7.out);obtain ⟨d0,d1,d2,d3,d4,d5,d6⟩:=HV.out w7 B7.out;go_upto_region 10 with(go_at_call 6;(with_reducible refine yX.mono ?_);rintro e w8 ⟨a2,c2,rfl,o8,hb⟩;have B8:=hd (Mv.out.trans (hb.mono Mv.out.size));have O8:=hd (O7.out.plus Mv.out.size hb (d:=⟨32,3,a2,P.length,c2,bB P⟩) o8.row o8.ge);clear yX hb o8 d0 d1 d2 d3 d4 d5 d6)
 have HF:Hid (Fv w P l a7 c7 a2 c2 wb wk a1 P.length c1 (bB P) w8):=hd ⟨by
  rw [hN.out];refine O8.out.perm ?_
  exact (List.Perm.swap _ _ _).trans ((List.Perm.cons _ ((List.Perm.cons _ (List.Perm.swap _ _ _)).trans (List.Perm.swap _ _ _))).trans (List.Perm.refl _)),B8.out⟩
 clear HQ DC O6 O7 O8 B6 B6w B7 Mv B8 Q7 HV aX sW;obtain ⟨np,dI⟩:=Haa P.length;have Xs:np<=1048576:=by rw [<-dI.out];exact aai ui.out iz
 rw [dI.out]at HF⊢;have HD:Hid (∀b n k zs W m,Fv w P l a7 c7 a2 c2 wb wk b n k zs W->Fv w P l a7 c7 a2 c2 wb wk b n k zs (W.drewN m)):=hd (fun b n k zs W m h=>h.below (ck W m));have BA:Hid (∀b n k zs W,Fv w P l a7 c7 a2 c2 wb wk b n k zs W->∀i,i<np->_):=hd (fun b n k zs W h i hi=>zW h.want i (by rw [dI.out];exact hi));have Fq:Hid (∀b n k zs W,Fv w P l a7 c7 a2 c2 wb wk b n k zs W->∀i,i<np->_):=hd (fun b n k zs W h i hi=>zW h.two i (by rw [dI.out];exact hi));have nY:Hid (∀b n k zs W,Fv w P l a7 c7 a2 c2 wb wk b n k zs W->∀i,i<N->_):=hd (fun b n k zs W h i hi=>zW h.own i (by rw [hN.out];exact hi));have sZ:Hid (∀b n k zs W,Fv w P l a7 c7 a2 c2 wb wk b n k zs W->∀i,i<N->_):=hd (fun b n k zs W h i hi=>zW (HS.out W h.bl) i (by rw [hN.out];exact hi));have BC:Hid (∀b n k zs W,Fv w P l a7 c7 a2 c2 wb wk b n k zs W->Rd W (some ⟨wb,N*3,none⟩) zz):=hd (fun b n k zs W h=>by have:=h.zz;rw [hN.out]at this;exact this);clear HS ui;go_upto_block 0 with fail;have I_:Hid (∀i zs W,i<np->(∀j,i*3<=j->zs[j]?=(bB P)[j]?)->Fv w P l a7 c7 a2 c2 wb wk a1 np c1 zs W->∃g,a1=some ⟨g,0,none⟩/\W.cell? ⟨g,i*3,none⟩=some (.int .i64 (P.getD i (0,0,0)).1)/\W.cell? ⟨g,i*3+1,none⟩=some (.int .i64 (P.getD i (0,0,0)).2.1)/\W.cell? ⟨g,i*3+2,none⟩=some (.int .i64 (P.getD i (0,0,0)).2.2)):=hd (fun i zs W hi hz h=>h.oneAt i (by rw [dI.out];exact hi) hi hz);go_cut [11,59,60,61,62,63,64,65,66,67,68,69,70,71,72,73,74,75,76,77] (fun _ _ _ _ _ _ _ _ _ _ _ _ _ _ _ _ _ _ _ _ wy=>Hid (∃zs,Fv w P l a7 c7 a2 c2 wb wk a1 np c1 zs wy))
 case first=>
  clear Fq nY sZ BC;go_wp2_with fail;go_loopg [11,59,60,61,62,63,64,65,66,67,68,69,70,71,72,73,74,75,76,77] np (fun gg v11 _ _ _ _ _ _ _ _ _ _ _ _ _ _ _ _ _ _ _ wr=>∃i:Nat,v11=.int .i64 (i:Int)/\i+gg=np/\Hid (∃zs,(∀j,i*3<=j->zs[j]?=(bB P)[j]?)/\Fv w P l a7 c7 a2 c2 wb wk a1 np c1 zs wr))
  case atStart=>exact ⟨0,by go_num,by omega,hd ⟨_,fun _ _=>rfl,HF.out⟩⟩
  case round=>
   clear HF;obtain ⟨i,rfl,hi,HW⟩:=hrel;by_cases h0:gk=0
   ·subst h0;obtain rfl:i=np:=by omega
    have dH:decide (((i:Nat):Int)<(i:Int))=false:=by simp
    have HM:Hid (∃zs,Fv w P l a7 c7 a2 c2 wb wk a1 i c1 zs wr):=hd (by obtain ⟨zs,-,h⟩:=HW.out;exact ⟨zs,h⟩);clear HW I_ HD BA;go_wp2_with fail;go_meet;exact HM
   ·have af:(i:Int)<((np:Nat):Int):=by omega
    obtain ⟨zs,hz,hf⟩:=HW.out;obtain ⟨g,rfl,x0,x1,x2⟩:=I_.out i zs wr (by omega) hz hf;obtain ⟨b7,o7,rfl,y0,y1,y2⟩:=BA.out _ _ _ _ _ hf i (by omega)
    have HN:Hid (∀m,((wr.drewN m).cell? ⟨g,i*3,none⟩=some (.int .i64 (P.getD i (0,0,0)).1)/\(wr.drewN m).cell? ⟨g,i*3+1,none⟩=some (.int .i64 (P.getD i (0,0,0)).2.1)/\(wr.drewN m).cell? ⟨g,i*3+2,none⟩=some (.int .i64 (P.getD i (0,0,0)).2.2))/\(∀j,(wr.drewN m).frozen? ⟨g,j,none⟩=false)/\Hid (∃zs,(∀j,(i+1)*3<=j->zs[j]?=(bB P)[j]?)/\Fv w P l (some ⟨b7,o7,none⟩) c7 a2 c2 wb wk (some ⟨g,0,none⟩) np c1 zs ((((wr.drewN m).setCell ⟨g,i*3,none⟩ (.int .i64 99)).setCell ⟨g,i*3+1,none⟩ (.int .i64 0)).setCell ⟨g,i*3+2,none⟩ (.int .i64 0)))):=hd (fun m=>by
     have KN:=HD.out _ _ _ _ _ m hf;obtain ⟨g',e,x⟩:=I_.out i zs (wr.drewN m) (by omega) hz KN
     cases e
     obtain ⟨g',e,q1,q2⟩:=KN.write i (by omega) (.int .i64 99) (.int .i64 0) (.int .i64 0)
     cases e
     exact ⟨x,q2,hd ⟨_,set3_keep hz _ _ _,q1⟩⟩)
    clear HW hz hf I_ HD BA;generalize P.getD i (0,0,0)=xx at*
    obtain ⟨xa,xb,xc⟩:=xx;dsimp only at x0 x1 x2 y0 y1 y2;go_upto_region 15 with fail;go_quiet (fail)
    revert nq;intro nq;obtain ⟨⟨z0,z1,z2⟩,zf,HG⟩:=HN.out nq;obtain ⟨wr2,dX⟩:=Haa (wr.drewN nq);rw [dX.out]at z0 z1 z2 zf HG⊢;dsimp only at z0 z1 z2;clear HN dX x0 x1 x2 y0 y1 y2;go_wp2_with fail;go_roundg (gk-1)
    case rel=>exact ⟨i+1,by go_num,by omega,HG⟩
    case measure=>omega
 case rest=>
 replace HF:=hcut;clear hcut I_;go_upto_block 2 with fail;go_cut [9,12,78,79,80,81,82,83,84,85] (fun _ _ _ _ _ _ _ _ _ _ wy=>Hid (∃b n k zs,Fv w P l a7 c7 a2 c2 wb wk b n k zs wy))
 case first=>
  clear HD BA Fq nY sZ BC;go_wp2_with fail;go_loopg [9,12,78,79,80,81,82,83,84,85] 9 (fun gg v9 v12 _ _ _ _ _ _ _ _ wr=>∃(i n k:Nat) (b:Option Addr),v12=.int .i64 (i:Int)/\i+gg=9/\v9=.slice b n k/\Hid (n<=np+i/\∃zs,Fv w P l a7 c7 a2 c2 wb wk b n k zs wr))
  case atStart=>exact ⟨0,np,c1,a1,by go_num,by omega,rfl,hd ⟨by omega,HF.out⟩⟩
  case round=>
   clear HF;obtain ⟨i,n,k,b,rfl,hi,rfl,HW⟩:=hrel;by_cases h0:gk=0
   ·subst h0;obtain rfl:i=9:=by omega
    have HM:Hid (∃b n k zs,Fv w P l a7 c7 a2 c2 wb wk b n k zs wr):=hd (by obtain ⟨-,zs,h⟩:=HW.out;exact ⟨_,_,_,zs,h⟩);clear HW;go_wp2_with fail;go_meet;exact HM
   ·have af:(i:Int)<9:=by omega
    have hle:=HW.out.1;obtain ⟨zs,hf⟩:=HW.out.2;obtain ⟨a',c',w',aO,HG⟩:=hf.push (by omega);clear HW hf;go_wp2_with (at_builtin;refine dZ rfl _ _ _ rfl _ _ _ _ rfl rfl aO.out ?_;clear aO);go_roundg (gk-1)
    case rel=>exact ⟨i+1,n+1,c',a',by go_num,by omega,rfl,hd ⟨by omega,HG.out⟩⟩
    case measure=>omega
 case rest=>
 replace HF:=hcut;clear hcut;go_upto_block 4 with fail;go_cut [13,86,87,88,89,90,91,92,93,94,95,96,97,98,99,100] (fun _ _ _ _ _ _ _ _ _ _ _ _ _ _ _ _ wy=>Hid (∃b n k zs,Fv w P l a7 c7 a2 c2 wb wk b n k zs wy))
 case first=>
  go_wp2_with fail;go_loopg [13,86,87,88,89,90,91,92,93,94,95,96,97,98,99,100] np (fun gg v13 _ _ _ _ _ _ _ _ _ _ _ _ _ _ _ wr=>∃i:Nat,v13=.int .i64 (i:Int)/\i+gg=np/\Hid (∃b n k zs,Fv w P l a7 c7 a2 c2 wb wk b n k zs wr))
  case atStart=>exact ⟨0,by go_num,by omega,HF⟩
  case round=>
   clear HF;obtain ⟨i,rfl,hi,HW⟩:=hrel;by_cases h0:gk=0
   ·subst h0;obtain rfl:i=np:=by omega
    have dH:decide (((i:Nat):Int)<(i:Int))=false:=by simp
    clear Fq BA HD nY sZ BC;go_wp2_with fail;go_meet;exact HW
   ·have af:(i:Int)<((np:Nat):Int):=by omega
    obtain ⟨b,n,k,zs,hf⟩:=HW.out;obtain ⟨p1,q1,rfl,x0,x1,x2⟩:=Fq.out _ _ _ _ _ hf i (by omega);obtain ⟨p2,q2,rfl,y0,y1,y2⟩:=BA.out _ _ _ _ _ hf i (by omega);have HN:=hd (fun m=>HD.out _ _ _ _ _ m hf);clear HW hf Fq BA HD nY sZ BC;generalize (P).getD i (0,0,0)=xx at*
    obtain ⟨xa,xb,xc⟩:=xx;dsimp only at x0 x1 x2 y0 y1 y2;go_upto_region 25 with fail;go_quiet (fail)
    go_wp2_with fail;have HG:=hd (HN.out nq);go_roundg (gk-1)
    case rel=>exact ⟨i+1,by go_num,by omega,hd ⟨b,n,k,zs,HG.out⟩⟩
    case measure=>omega
 case rest=>
 replace HF:=hcut;clear hcut;clear Fq BA;go_upto_block 6 with fail;go_cut [14,101,102,103,104,105,106,107,108,109,110,111,112,113,114,115] (fun _ _ _ _ _ _ _ _ _ _ _ _ _ _ _ _ wy=>Hid (∃b n k zs,Fv w P l a7 c7 a2 c2 wb wk b n k zs wy))
 case first=>
  go_wp2_with fail;go_loopg [14,101,102,103,104,105,106,107,108,109,110,111,112,113,114,115] N (fun gg v14 _ _ _ _ _ _ _ _ _ _ _ _ _ _ _ wr=>∃i:Nat,v14=.int .i64 (i:Int)/\i+gg=N/\Hid (∃b n k zs,Fv w P l a7 c7 a2 c2 wb wk b n k zs wr))
  case atStart=>exact ⟨0,by go_num,by omega,HF⟩
  case round=>
   clear HF;obtain ⟨i,rfl,hi,HW⟩:=hrel;by_cases h0:gk=0
   ·subst h0;obtain rfl:i=N:=by omega
    have dH:decide (((i:Nat):Int)<(i:Int))=false:=by simp
    clear nY sZ HD BC;go_wp2_with fail;go_meet;exact HW
   ·have af:(i:Int)<((N:Nat):Int):=by omega
    obtain ⟨b,n,k,zs,hf⟩:=HW.out;obtain ⟨p1,q1,e0,x0,x1,x2⟩:=nY.out _ _ _ _ _ hf i (by omega)
    cases e0
    rw [aaH]at x0 x1 x2;obtain ⟨p2,q2,rfl,y0,y1,y2⟩:=sZ.out _ _ _ _ _ hf i (by omega);have HN:=hd (fun m=>HD.out _ _ _ _ _ m hf);clear HW hf nY sZ HD BC;generalize (l).getD i (0,0,0)=xx at*
    obtain ⟨xa,xb,xc⟩:=xx;dsimp only at x0 x1 x2 y0 y1 y2;go_upto_region 30 with fail;go_quiet (fail)
    go_wp2_with fail;have HG:=hd (HN.out nq);go_roundg (gk-1)
    case rel=>exact ⟨i+1,by go_num,by omega,hd ⟨b,n,k,zs,HG.out⟩⟩
    case measure=>omega
 case rest=>
 replace HF:=hcut;clear hcut;obtain ⟨b,n,k,zs,hf⟩:=HF.out;have h7:=BC.out _ _ _ _ _ hf;have x0:wc.cell? ⟨wb,N*3,none⟩=some (.int .i64 77):=WA h7 0 _ rfl;have x3:wc.cell? ⟨wb,(N+1)*3,none⟩=some (.int .i64 77):=by rw [show(N+1)*3=N*3+3 by omega];exact WA h7 3 _ rfl
 have HZ:=hd hf.bl;clear HF hf h7 BC nY sZ HD;go_wp2_with fail;go_ret;exact ⟨rfl,HZ.out⟩
end
namespace View
open Go.ChangeShapes Go.WideShapes Go.ChangeAt Go.RowKit Go.Proofs.Tryz
theorem SL{H:Type}{P:Program}{e:TypeId}:∀{l:List (DataW H)} {d:DataW H} {n:Nat},d∈l->n∈d.weights P e->n∈DataW.weightsAll P e l
 |[],_,_,h,_=>by simp at h
 |x::l,d,n,h,hn=>by
  simp only [DataW.weightsAll,List.mem_append];rcases aa0.1 h with rfl|h
  ·exact .inl hn
  ·exact .inr (SL h hn)
variable{α:Type}
theorem GQ(l:List α)(h:l.length=2):∃c0 c1,l=[c0,c1]:=by
 match l,h with
 |[c0,c1],_=>exact ⟨c0,c1,rfl⟩
theorem XE(l:List α)(h:l.length=3):∃c0 c1 c2,l=[c0,c1,c2]:=by
 match l,h with
 |[c0,c1,c2],_=>exact ⟨c0,c1,c2,rfl⟩
theorem XF(l:List α)(h:l.length=7):∃c0 c1 c2 c3 c4 c5 c6,l=[c0,c1,c2,c3,c4,c5,c6]:=by
 match l,h with
 |[c0,c1,c2,c3,c4,c5,c6],_=>exact ⟨c0,c1,c2,c3,c4,c5,c6,rfl⟩
section
variable{H:Type} {enc:TypeId×Value->H} {W:World}
def vT(t:TypeId)(d:DataW H):Prop:=∀m∈d.weights prog t,m<=reachBytes
theorem Ow{α:Type}[Inhabited α]{t e:TypeId}{sz bytes fuel:Nat}{cs:List Value}{x:DataW H×List MemPlace}(E:World->List Value->α->Prop)(hs:0<sz)(ht:prog.underlying t=some (.slice e))(hc:prog.cellsOf e=sz)(pX:prog.bytesOf e=bytes)(h8:8<=bytes)
 (each:∀n cs y,DataW.trod enc prog W 0 (fun _=>true) true n e cs=some y->vT e y.1->cs.length=sz->∃x,E W cs x)
 (h:DataW.trod enc prog W 0 (fun _=>true) true fuel t cs=some x)(hw:vT t x.1):∃v xs,cs=[v]/\b_ sz E W v xs:=by
 rcases DataW.trod_slice ht h with⟨hcs,hx⟩|⟨a',len,cap,elems,rest,n,_,hcs,hx,hb,hl,hm,hlen,j6,_,_⟩
 ·exact ⟨_,[],hcs,b_.nil⟩
 ·rw [hc]at j6;have Eu:∀m∈((elems.length+rest.length)*prog.bytesOf e::(DataW.weightsAll prog e (elems.map (·.1))++DataW.weightsAll prog e (rest.map (·.1)))),m<=reachBytes:=fun m Sl=>hw m (by rw [hx];simp only [DataW.weights,ht,List.length_map];exact Sl)
  have KH:len<=iD:=by
   have h1:=Eu _ (aaA);rw [pX]at h1;have h2:(elems.length+rest.length)*8<=(elems.length+rest.length)*bytes:=abj _ h8;unfold reachBytes at h1;unfold iD;omega
  have key:∀i,∃cx:List Value×α,i<len->(∀r,r<sz->W.cell? ((a'.add (i*sz)).add r)=cx.1[r]?)/\cx.1.length=sz/\E W cx.1 cx.2:=by
   intro i;by_cases hi:i<len
   ·have h1:=j6 i hi;obtain ⟨y,hy⟩:∃y,elems[i]?=some y:=⟨_,aad (by omega)⟩;rw [hy,Option.bind_eq_some_iff]at h1;obtain ⟨ds,fF,H9⟩:=h1;have bZ:=World.cells?_some fF;have ky:ds.length=sz:=bZ.2.1;obtain ⟨z,hz⟩:=each _ _ _ H9 (fun m Sl=>Eu m (aaw _ (List.mem_append_left _ (SL (abm.2 ⟨y,aba hy,rfl⟩) Sl)))) ky;exact ⟨(ds,z),fun _=>⟨bZ.2.2,ky,hz⟩⟩
   ·exact ⟨([],default),fun h=>absurd h hi⟩
  obtain ⟨f,hf⟩:=Classical.axiomOfChoice key;have PN:((List.range len).map fun i=>(f i).1).length=len:=by simp
  have PO:∀i,i<len->((List.range len).map fun i=>(f i).1).getD i []=(f i).1:=fun i hi=>by
   rw [aac,aaK,List.getElem?_range hi];rfl
  have hxsi:∀i,i<len->((List.range len).map fun i=>(f i).2).getD i default=(f i).2:=fun i hi=>by
   rw [aac,aaK,List.getElem?_range hi];rfl
  have WG:∀i,i<((List.range len).map fun i=>(f i).1).length->(((List.range len).map fun i=>(f i).1).getD i []).length=sz:=fun i hi=>by
   rw [PN]at hi;rw [PO i hi];exact (hf i hi).2.1
  refine ⟨_,(List.range len).map fun i=>(f i).2,hcs,some a',cap,(List.range len).map fun i=>(f i).1,by simp,fun j u hj=> ?_,by simp,by simpa using KH,fun i hi=> ?_⟩
  ·have fV:j<len*sz:=by
    have:=(abE.1 hj).1;rw [M6 _ WG,PN]at this;exact this
   have hi:j/sz<len:=Nat.div_lt_of_lt_mul (by rw [abF];exact fV);have hr:j% sz<sz:=Nat.mod_lt _ hs;have hjj:j/sz*sz+j% sz=j:=by rw [abF];exact Nat.div_add_mod j sz
   have h2:=(hf (j/sz) hi).1 (j% sz) hr;have h3:=M7 _ WG (j/sz) (j% sz) (by rw [PN];exact hi) hr;rw [PO _ hi,hjj,hj]at h3;rw [<-h3]at h2;obtain ⟨b,off,spot⟩:=a';have h0:=hf 0 (Nat.lt_of_le_of_lt (aaq _) hi);have h00:=h0.1 0 hs;rw [aad (by rw [h0.2.1];exact hs)]at h00;have hspot:spot=none:=by simpa [Addr.add]using World.cell?_spot h00
   subst hspot;rw [kO,kO,abw,hjj]at h2;exact ⟨b,off,rfl,h2⟩
  ·have gj:i<len:=by simpa using hi
   rw [PO i gj,hxsi i gj];exact (hf i gj).2
theorem CK:prog.cellsOf 3=1:=by kernel_rfl
theorem ci64:prog.cellsOf 2=1:=by kernel_rfl
theorem cu64:prog.cellsOf 28=1:=by kernel_rfl
theorem cLint:prog.cellsOf 23=1:=by kernel_rfl
theorem cLu64:prog.cellsOf 22=1:=by kernel_rfl
theorem cLProc:prog.cellsOf 24=1:=by kernel_rfl
theorem cLIns:prog.cellsOf 36=1:=by kernel_rfl
theorem WH:prog.cellsOf 38=2:=by kernel_rfl
theorem Vl:prog.cellsOf 26=7:=by kernel_rfl
theorem bu64:prog.bytesOf 28=8:=by kernel_rfl
theorem bProc:prog.bytesOf 38=32:=by kernel_rfl
theorem raw_u(n:Nat)(cs:List Value)(y:DataW H×List MemPlace)(h:DataW.trod enc prog W 0 (fun _=>true) true n 28 cs=some y)(_:vT 28 y.1)(_:cs.length=1):∃x,uE W cs x:=by
 obtain ⟨z,e,_,w⟩:=DataW.trod_int underlying28 h;have:=bounds_u64 w;exact ⟨z.toNat,by rw [e,show(z.toNat:Int)=z by omega],by omega⟩
theorem UA{ts:List TypeId}{ys:List (DataW H×List MemPlace)}{j:Nat}{t:TypeId}{y:DataW H×List MemPlace}(hj:ts[j]?=some t)(hy:ys[j]?=some y)(hr:∀m∈DataW.weightsEach prog ts (ys.map (·.1)),m<=reachBytes):vT t y.1:=fun m hm=>hr m (DataW.weights_mem_each hj (by rw [aaK,hy];rfl) m hm)
theorem raw_c(n:Nat)(cs:List Value)(y:DataW H×List MemPlace)(h:DataW.trod enc prog W 0 (fun _=>true) true n 38 cs=some y)(hr:vT 38 y.1)(_:cs.length=2):∃x,cE W cs x:=by
 obtain ⟨ys,m,_,sP,bZ,Fw,aY⟩:=DataW.trod_struct underlying38 h;rw [WH]at bZ;have Mw:∀m∈DataW.weightsEach prog [3,36] (ys.map (·.1)),m<=reachBytes:=fun q hq=>hr q (by rw [sP];simp only [DataW.weights,underlying38];exact hq)
 have t0:DataW.trod enc prog W 0 (fun _=>true) true m 3 ((cs.drop 0).take (prog.cellsOf 3))=ys[0]?:=aY 0 _ rfl;rw [CK]at t0;have t1:DataW.trod enc prog W 0 (fun _=>true) true m 36 ((cs.drop 1).take (prog.cellsOf 36))=ys[1]?:=aY 1 _ rfl;rw [cLIns]at t1;obtain ⟨c0,c1,rfl⟩:=GQ cs bZ;obtain ⟨z0,z1,rfl⟩:=GQ ys Fw;obtain ⟨n0,e0,_,_⟩:=DataW.trod_int aaY t0;simp at e0;subst e0;exact ⟨n0,_,rfl⟩
theorem raw_f(n:Nat)(cs:List Value)(y:DataW H×List MemPlace)(h:DataW.trod enc prog W 0 (fun _=>true) true n 26 cs=some y)(hr:vT 26 y.1)(_:cs.length=7):∃x,fE W cs x:=by
 obtain ⟨ys,m,_,sP,bZ,Fw,aY⟩:=DataW.trod_struct underlying26 h;rw [Vl]at bZ;have Mw:∀m∈DataW.weightsEach prog [22,23,3,3,3,3,24] (ys.map (·.1)),m<=reachBytes:=fun q hq=>hr q (by rw [sP];simp only [DataW.weights,underlying26];exact hq)
 have t0:DataW.trod enc prog W 0 (fun _=>true) true m 22 ((cs.drop 0).take (prog.cellsOf 22))=ys[0]?:=aY 0 _ rfl;rw [cLu64]at t0;have t1:DataW.trod enc prog W 0 (fun _=>true) true m 23 ((cs.drop 1).take (prog.cellsOf 23))=ys[1]?:=aY 1 _ rfl;rw [cLint]at t1;have t2:DataW.trod enc prog W 0 (fun _=>true) true m 3 ((cs.drop 2).take (prog.cellsOf 3))=ys[2]?:=aY 2 _ rfl;rw [CK]at t2;have t3:DataW.trod enc prog W 0 (fun _=>true) true m 3 ((cs.drop 3).take (prog.cellsOf 3))=ys[3]?:=aY 3 _ rfl;rw [CK]at t3;have t4:DataW.trod enc prog W 0 (fun _=>true) true m 3 ((cs.drop 4).take (prog.cellsOf 3))=ys[4]?:=aY 4 _ rfl;rw [CK]at t4;have t5:DataW.trod enc prog W 0 (fun _=>true) true m 3 ((cs.drop 5).take (prog.cellsOf 3))=ys[5]?:=aY 5 _ rfl;rw [CK]at t5;have t6:DataW.trod enc prog W 0 (fun _=>true) true m 24 ((cs.drop 6).take (prog.cellsOf 24))=ys[6]?:=aY 6 _ rfl;rw [cLProc]at t6;obtain ⟨c0,c1,c2,c3,c4,c5,c6,rfl⟩:=XF cs bZ;obtain ⟨z0,z1,z2,z3,z4,z5,z6,rfl⟩:=XF ys Fw;obtain ⟨v0,l0,e0,d0⟩:=(Ow uE (by decide) underlying22 cu64 bu64 (by decide) raw_u) t0 (UA (j:=0) rfl rfl Mw);simp at e0;subst e0;obtain ⟨v6,l6,e6,d6⟩:=(Ow cE (by decide) underlying24 WH bProc (by decide) raw_c) t6 (UA (j:=6) rfl rfl Mw);simp at e6;subst e6;exact ⟨⟨l0,l6⟩,_,_,_,_,_,_,_,rfl,d0,d6⟩
theorem view_cfg{base:Nat}{v:Value}{d:DataW H}{p:List MemPlace}(hv:Value.okWide prog W .any base 26 v)(h:DataW.Trod enc prog W 0 (fun _=>true) true 26 v d p)(hr:vT 26 d):∃cs c,v=.agg cs.toArray/\fE W cs c:=by
 obtain ⟨⟨L⟩,rfl,hs⟩:=okWide_struct underlying26 hv;obtain ⟨fuel,hf⟩:=h;have hf:DataW.trod enc prog W 0 (fun _=>true) true fuel 26 L=some (d,p):=hf;have hl:L.length=7:=by
  obtain ⟨ys,m,_,sP,bZ,Fw,aY⟩:=DataW.trod_struct underlying26 hf;rw [bZ,Vl]
 obtain ⟨c,hc⟩:=raw_f fuel L _ hf hr hl;exact ⟨L,c,rfl,hc⟩
theorem WI:prog.cellsOf 32=3:=by kernel_rfl
theorem bStep:prog.bytesOf 32=24:=by kernel_rfl
theorem raw_st(n:Nat)(cs:List Value)(y:DataW H×List MemPlace)(h:DataW.trod enc prog W 0 (fun _=>true) true n 32 cs=some y)(hr:vT 32 y.1)(_:cs.length=3):∃x,eE W cs x:=by
 obtain ⟨ys,m,_,sP,bZ,Fw,aY⟩:=DataW.trod_struct underlying32 h;rw [WI]at bZ;have Mw:∀m∈DataW.weightsEach prog [3,3,2] (ys.map (·.1)),m<=reachBytes:=fun q hq=>hr q (by rw [sP];simp only [DataW.weights,underlying32];exact hq)
 have t0:DataW.trod enc prog W 0 (fun _=>true) true m 3 ((cs.drop 0).take (prog.cellsOf 3))=ys[0]?:=aY 0 _ rfl;rw [CK]at t0;have t1:DataW.trod enc prog W 0 (fun _=>true) true m 3 ((cs.drop 1).take (prog.cellsOf 3))=ys[1]?:=aY 1 _ rfl;rw [CK]at t1;have t2:DataW.trod enc prog W 0 (fun _=>true) true m 2 ((cs.drop 2).take (prog.cellsOf 2))=ys[2]?:=aY 2 _ rfl;rw [ci64]at t2;obtain ⟨c0,c1,c2,rfl⟩:=XE cs bZ;obtain ⟨z0,z1,z2,rfl⟩:=XE ys Fw;obtain ⟨n0,e0,_,_⟩:=DataW.trod_int aaY t0;simp at e0;subst e0;obtain ⟨n1,e1,_,_⟩:=DataW.trod_int aaY t1;simp at e1;subst e1;obtain ⟨n2,e2,_,_⟩:=DataW.trod_int underlying2 t2;simp at e2;subst e2;exact ⟨(n0,n1,n2),rfl⟩
theorem view_script{base:Nat}{v:Value}{d:DataW H}{p:List MemPlace}(hv:Value.okWide prog W .any base 27 v)(h:DataW.Trod enc prog W 0 (fun _=>true) true 27 v d p)(hr:vT 27 d):∃l,b_ 3 eE W v l:=by
 obtain ⟨fuel,hf⟩:=h;obtain ⟨v',xs,e1,e2⟩:=Ow eE (by decide) underlying27 WI bStep (by decide) raw_st hf hr;obtain ⟨x,n,c,rfl⟩:=okWide_slice underlying27 hv;simp [Value.cells]at e1;subst e1;exact ⟨xs,e2⟩
end
end View
end Go.Proofs.YthopnfbjiifhhaaGreatDoor
