/- Steps that an observer may not know of. -/
import Derived.Test.YthopnfbjiifhhaaGreatDoorGQs
import Derived.Test.YthopnfbjiifhhaaGreatDoorGVb
import Derived.Test.YthopnfbjiifhhaaGreatDoorGXt
set_option maxHeartbeats 4000000
set_option maxRecDepth 100000
namespace Go.Proofs.YthopnfbjiifhhaaGreatDoor
open Go.RowKit Go.Proofs.Tryz
def hid(c:View.l_)(a:Nat)(s:cK):Bool:=(decide (s.1=2)||decide (s.1=3))&& !View.jD c a s.2.1
def dG(c:View.l_)(a:Nat)(l:List cK):List cK:=l.filter (fun s=> !hid c a s)
variable{w W W':World}{c:View.l_}{a:Option Addr}{B size bytes n g cap b:Nat}{T e:TypeId}{z:Value}{xs us:List Value}
theorem hidden_any{cs:List Value}(hc:View.fE w cs c)(k n v:Int)(a:Nat)(ha:a<18446744073709551616):Calls prog 10 #[.agg cs.toArray,.agg #[.int .i64 k,.int .i64 n,.int .i64 v],.int .u64 (a:Int)] w fun e w'=>e=.returned (.bool (hid c a (k,n,v)))/\Below w.heap.size w w':=by
 have HC:=hd hc;obtain ⟨v0,v1,v2,v3,v4,v5,v6,rfl,-,-⟩:=hc;have aI:Below w.heap.size w ((w.alloc (.cells #[v0,v1,v2,v3,v4,v5,v6] 26)).alloc (.cells #[.int .i64 k,.int .i64 n,.int .i64 v] 32)):=(aA w _).trans ((aA _ _).mono (aA w _).size);have Fh:=View.Nu (View.fE.below aI HC.out) n a ha;have hh:hid c a (k,n,v)=((decide (k=2)||decide (k=3))&& !View.jD c a n):=rfl;rw [hh];generalize View.jD c a n=r at*
 replace aI:=hd aI;clear hh;by_cases h2:k=2
 ·subst h2;clear HC;go_enter func10,ntmps10;go_wp2_with (go_at_call 17;(with_reducible refine Fh.mono ?_);rintro e w1 ⟨rfl,eH⟩);go_ret;exact ⟨by cases r<;>rfl,aI.out.trans (eH.mono aI.out.size)⟩
 by_cases h3:k=3
 ·subst h3;clear HC;go_enter func10,ntmps10;go_wp2_with (go_at_call 17;(with_reducible refine Fh.mono ?_);rintro e w1 ⟨rfl,eH⟩);go_ret;exact ⟨by cases r<;>rfl,aI.out.trans (eH.mono aI.out.size)⟩
 ·have e2:(k==2)=false:=by simpa using h2
  have e3:(k==3)=false:=by simpa using h3
  have e4:decide (k=2)=false:=aaC h2;have e5:decide (k=3)=false:=aaC h3;rw [e4,e5];clear HC Fh h2 h3 e4 e5;go_enter func10,ntmps10;go_wp2_with fail;go_ret;exact ⟨by cases r<;>rfl,aI.out⟩
theorem rhidden_any{cs:List Value}(hc:View.fE w cs c)(k n v:Int)(a:Nat)(ha:a<18446744073709551616):Calls prog 9 #[.agg cs.toArray,.agg #[.int .i64 k,.int .i64 n,.int .i64 v],.int .u64 (a:Int)] w fun e w'=>e=.returned (.bool (hid c a (k,n,v)))/\Below w.heap.size w w':=by
 have HC:=hd hc;obtain ⟨v0,v1,v2,v3,v4,v5,v6,rfl,-,-⟩:=hc;have aI:Below w.heap.size w ((w.alloc (.cells #[v0,v1,v2,v3,v4,v5,v6] 26)).alloc (.cells #[.int .i64 k,.int .i64 n,.int .i64 v] 32)):=(aA w _).trans ((aA _ _).mono (aA w _).size);have Fh:=View.rsees_any (View.fE.below aI HC.out) n a ha;have hh:hid c a (k,n,v)=((decide (k=2)||decide (k=3))&& !View.jD c a n):=rfl;rw [hh];generalize View.jD c a n=r at*
 have HX:Hid (∀W,Below ((w.alloc (.cells #[v0,v1,v2,v3,v4,v5,v6] 26)).alloc (.cells #[.int .i64 k,.int .i64 n,.int .i64 v] 32)).heap.size ((w.alloc (.cells #[v0,v1,v2,v3,v4,v5,v6] 26)).alloc (.cells #[.int .i64 k,.int .i64 n,.int .i64 v] 32)) W->W.cell? ⟨w.heap.size+1,0,none⟩=some (.int .i64 k)):=hd (fun W hb=>by
  have h1:=aae (w.alloc (.cells #[v0,v1,v2,v3,v4,v5,v6] 26)) (.cells #[.int .i64 k,.int .i64 n,.int .i64 v] 32);have h2:(w.alloc (.cells #[v0,v1,v2,v3,v4,v5,v6] 26)).heap.size=w.heap.size+1:=by simp
  rw [h2]at h1;rw [aaa _ _ _ _ _ _ ((hb.block _ (aab.1 h1).1).trans h1)]
  rfl)
 replace aI:=hd aI;clear hh HC;go_enter func9,ntmps9;go_upto_region 2 with(go_at_call 16;(with_reducible refine Fh.mono ?_);rintro e w1 ⟨rfl,eH⟩;have x0:=HX.out w1 eH;replace eH:=hd (aI.out.trans (eH.mono aI.out.size));clear Fh HX);by_cases h2:k=2
 ·subst h2;go_wp2_with fail;go_ret;exact ⟨by cases r<;>rfl,eH.out⟩
 by_cases h3:k=3
 ·subst h3;go_wp2_with fail;go_ret;exact ⟨by cases r<;>rfl,eH.out⟩
 ·have e2:(k==2)=false:=by simpa using h2
  have e3:(k==3)=false:=by simpa using h3
  have e4:decide (k=2)=false:=aaC h2;have e5:decide (k=3)=false:=aaC h3;clear h2 h3;go_wp2_with fail;go_ret;exact ⟨by rw [e4,e5];cases r<;>rfl,eH.out⟩
theorem JD:(prog.info? 32).map (fun i=>(i.zero,i.size,i.bytes))=some (some (.agg #[.int .i64 0,.int .i64 0,.int .i64 0]),3,24):=by kernel_rfl
theorem spC_app(l m:List cK):bB (l++m)=bB l++bB m:=by simp [bB]
theorem JT(l:List cK):(bB l).length=l.length*3:=by
 induction l with
 |nil=>rfl
 |cons s t ih=>
  show(pG s++bB t).length=_;rw [aal,ih,List.length_cons,abr];simp [pG];omega
theorem VJ(l:List cK)(i:Nat)(hi:i<l.length):(bB l)[3*i]?=some (.int .i64 (l.getD i (0,0,0)).1)/\(bB l)[3*i+1]?=some (.int .i64 (l.getD i (0,0,0)).2.1)/\(bB l)[3*i+2]?=some (.int .i64 (l.getD i (0,0,0)).2.2):=by
 induction l generalizing i with
 |nil=>cases hi
 |cons s t ih=>
  cases i with
  |zero=>exact ⟨rfl,rfl,rfl⟩
  |succ i=>
   have h:=ih i (by simpa using hi);have e:∀j,(bB (s::t))[3*(i+1)+j]?=(bB t)[3*i+j]?:=fun j=>by
    show(pG s++bB t)[3*(i+1)+j]?=_;rw [aan (by simp [pG];omega)];congr 1;simp [pG];omega
   exact ⟨(e 0).trans h.1,(e 1).trans h.2.1,(e 2).trans h.2.2⟩
theorem zW{l:List cK}(h:Rd w a (bB l))(i:Nat)(hi:i<l.length):∃b o,a=some ⟨b,o,none⟩/\w.cell? ⟨b,o+i*3,none⟩=some (.int .i64 (l.getD i (0,0,0)).1)/\w.cell? ⟨b,o+i*3+1,none⟩=some (.int .i64 (l.getD i (0,0,0)).2.1)/\w.cell? ⟨b,o+i*3+2,none⟩=some (.int .i64 (l.getD i (0,0,0)).2.2):=by
 obtain ⟨h0,h1,h2⟩:=VJ l i hi;rw [abF]at h0 h1 h2;obtain ⟨b,o,rfl,c0⟩:=h _ _ h0;obtain ⟨_,_,e1,c1⟩:=h _ _ h1;obtain ⟨_,_,e2,c2⟩:=h _ _ h2
 cases e1
 cases e2
 exact ⟨b,o,rfl,c0,c1,c2⟩
theorem Ux(c:View.l_)(a:Nat)(l:List cK)(i:Nat)(hi:i<l.length):dG c a (l.take (i+1))=dG c a (l.take i)++if hid c a (l.getD i (0,0,0))then[]else[l.getD i (0,0,0)]:=by
 have e:l.getD i (0,0,0)=l[i]:=by rw [aac,aad hi];rfl
 rw [aaD hi,dG,List.filter_append,e];congr 1;by_cases h:hid c a l[i]=true
 ·rw [aah h,abt,h];rfl
 ·rw [aaf h,abt];simp only [Bool.not_eq_true]at h;rw [h];rfl
theorem Gj(c:View.l_)(a:Nat)(l:List cK):(dG c a l).length<=l.length:=List.length_filter_le _ _
structure Own(B:Nat)(l:List cK)(a:Option Addr)(c:Nat)(W:World):Prop where
 row:Row W 32 3 a l.length c (bB l)
 ge:∀k,ae a=some k->B<=k
theorem Own.below{l:List cK}{c:Nat}(h:Own B l a c W)(hb:Below W.heap.size W W'):Own B l a c W':=⟨h.row.below hb,h.ge⟩
theorem Own.push{l:List cK}{c:Nat}(h:Own B l a c W)(hB:B<=W.heap.size)(hl:l.length<=1000000000000)(s:cK):
 ∃a' c' w',Hid (∀ty,(Builtin.append_ #[27,27] ty #[.slice a l.length c,.slice (some ⟨W.heap.size,0,none⟩) 1 1]).run prog (W.alloc (.cells #[.int .i64 s.1,.int .i64 s.2.1,.int .i64 s.2.2] 32))=.ok (.slice a' (l++[s]).length c') w')/\Hid (Own B (l++[s]) a' c' w'/\Below B W w'):=by
 obtain ⟨a',c',w',k1,k2,k3,k4⟩:=mX underlying27 JD rfl (by omega) h.row hl (pG s) rfl (by intro u hu;simp only [pG,List.mem_cons,List.not_mem_nil,or_false]at hu;rcases hu with rfl|rfl|rfl<;>rfl);refine ⟨a',c',w',hd (fun ty=> ?_),hd ⟨⟨?_,fun k hk=> ?_⟩,k3.below hB (fun k _ hk=>h.ge k hk)⟩⟩
 ·rw [aal];exact k1 ty
 ·rw [aal,spC_app];exact k2
 ·rcases k4 k hk with e|e
  ·exact h.ge k e
  ·omega
theorem Own.start:Own B [] none 0 W:=⟨Row.nil,fun k hk=>by cases hk⟩
def zX(w:World)(l:List cK)(e:Ending)(w':World):Prop:=∃a' c',e=.returned (.slice a' l.length c')/\Own w.heap.size l a' c' w'/\Below w.heap.size w w'
theorem Jr{cs:List Value}(hc:View.fE w cs c)(a:Nat)(ha:a<18446744073709551616)(sa:Option Addr)(sc:Nat)(l:List cK)(hS:Rd w sa (bB l))(hl:l.length<=1048576):
 Calls prog 6 #[.agg cs.toArray,.slice sa l.length sc,.int .u64 (a:Int)] w (zX w (dG c a l)):=by
 have HC:Hid (∀W,Below w.heap.size w W->View.fE W cs c):=hd (fun W hb=>View.fE.below hb hc);have HS:Hid (∀W,Below w.heap.size w W->Rd W sa (bB l)):=hd (fun W hb=>hS.below hb);obtain ⟨v0,v1,v2,v3,v4,v5,v6,rfl,-,-⟩:=hc;have hx:=aae w (.cells #[v0,v1,v2,v3,v4,v5,v6] 26);have ai:=aA w (.cells #[v0,v1,v2,v3,v4,v5,v6] 26);obtain ⟨w1,aR⟩:=Haa (w.alloc (.cells #[v0,v1,v2,v3,v4,v5,v6] 26));obtain ⟨bx,aT⟩:=Haa w.heap.size;have cD:w1.heap.size=bx+1:=by rw [<-aR.out,<-aT.out];simp
 rw [aR.out]at hx ai;have aX:=hd ai
 have HV:Hid (∀W,Below w1.heap.size w1 W->W.cell? ⟨bx,0,none⟩=some v0/\W.cell? ⟨bx,1,none⟩=some v1/\W.cell? ⟨bx,2,none⟩=some v2/\W.cell? ⟨bx,3,none⟩=some v3/\W.cell? ⟨bx,4,none⟩=some v4/\W.cell? ⟨bx,5,none⟩=some v5/\W.cell? ⟨bx,6,none⟩=some v6):=hd (fun W hb=>by
  rw [aT.out]at hx;have h:∀j u,#[v0,v1,v2,v3,v4,v5,v6][j]?=some u->W.cell? ⟨bx,j,none⟩=some u:=fun j u hj=>by
   rw [aaa _ _ _ _ _ _ ((hb.block bx (by omega)).trans hx)];exact hj
  exact ⟨h 0 _ rfl,h 1 _ rfl,h 2 _ rfl,h 3 _ rfl,h 4 _ rfl,h 5 _ rfl,h 6 _ rfl⟩)
 obtain ⟨F,hF⟩:∃F:List cK->Option Addr->Nat->World->Prop,Hid (∀m b k W,F m b k W↔Own w1.heap.size m b k W/\Below w1.heap.size w1 W):=⟨_,hd (fun _ _ _ _=>Iff.rfl)⟩
 have HE:Hid (∀b k W,F (dG c a l) b k W->zX w (dG c a l) (.returned (.slice b (dG c a l).length k)) W):=hd (fun b k W hf=>by
  obtain ⟨h1,h2⟩:=(hF.out _ _ _ _).1 hf
  exact ⟨b,k,rfl,⟨h1.row,fun q hq=>aai aX.out.size (h1.ge q hq)⟩,aX.out.trans (h2.mono aX.out.size)⟩)
 have HT:=hd (Ux c a l);have mO:Hid (∀i,(dG c a (l.take i)).length<=1048576):=hd (fun i=>aai (Gj c a _) (aai (by rw [aa4];omega) hl));have qd:Hid (F (dG c a (l.take 0)) none 0 w1):=hd ((hF.out _ _ _ _).2 ⟨by rw [List.take_zero];exact Own.start,aak _ _⟩);have nV:Hid (dG c a (l.take l.length)=dG c a l):=hd (by rw [abg])
 have Bt:Hid (∀m b k W W',F m b k W->Below W.heap.size W W'->F m b k W'):=hd (fun m b k W W' hf hb=>by
  obtain ⟨h1,h2⟩:=(hF.out _ _ _ _).1 hf
  exact (hF.out _ _ _ _).2 ⟨h1.below hb,h2.trans (hb.mono h2.size)⟩)
 have HP:Hid (∀m b k W (s:cK),F m b k W->m.length<=1048576->∃a' c' w',Hid (∀ty,(Builtin.append_ #[27,27] ty #[.slice b m.length k,.slice (some ⟨W.heap.size,0,none⟩) 1 1]).run prog (W.alloc (.cells #[.int .i64 s.1,.int .i64 s.2.1,.int .i64 s.2.2] 32))=.ok (.slice a' (m++[s]).length c') w')/\Hid (F (m++[s]) a' c' w')):=hd (fun m b k W s hf hm=>by
  obtain ⟨h1,h2⟩:=(hF.out _ _ _ _).1 hf;obtain ⟨a',c',w',k1,k2⟩:=h1.push h2.size (by omega) s
  exact ⟨a',c',w',k1,hd ((hF.out _ _ _ _).2 ⟨k2.out.1,h2.trans k2.out.2⟩)⟩)
 have HH:Hid (∀m b k W,F m b k W->∀s:cK,Calls prog 10 #[.agg #[v0,v1,v2,v3,v4,v5,v6],.agg #[.int .i64 s.1,.int .i64 s.2.1,.int .i64 s.2.2],.int .u64 (a:Int)] W fun e w'=>e=.returned (.bool (hid c a s))/\Hid (F m b k w'/\Below W.heap.size W w')):=hd (fun m b k W hf s=>by
  obtain ⟨h1,h2⟩:=(hF.out _ _ _ _).1 hf
  refine (hidden_any (HC.out W (aX.out.trans (h2.mono aX.out.size))) s.1 s.2.1 s.2.2 a ha).mono fun e w' he=>⟨he.1,hd ⟨(hF.out _ _ _ _).2 ⟨h1.below he.2,h2.trans (he.2.mono h2.size)⟩,he.2⟩⟩)
 have Bu:Hid (∀m b k W,F m b k W->Rd W sa (bB l)):=hd (fun m b k W hf=>HS.out W (aX.out.trans (((hF.out _ _ _ _).1 hf).2.mono aX.out.size)));have Dv:Hid (∀m b k W,F m b k W->W.cell? ⟨bx,0,none⟩=some v0/\W.cell? ⟨bx,1,none⟩=some v1/\W.cell? ⟨bx,2,none⟩=some v2/\W.cell? ⟨bx,3,none⟩=some v3/\W.cell? ⟨bx,4,none⟩=some v4/\W.cell? ⟨bx,5,none⟩=some v5/\W.cell? ⟨bx,6,none⟩=some v6):=hd (fun m b k W hf=>HV.out W ((hF.out _ _ _ _).1 hf).2);obtain ⟨LL,zy⟩:=Haa l.length;have yD:LL<=1048576:=by rw [<-zy.out];exact hl
 rw [zy.out]at HT nV;rw [zy.out];have Bv:Hid (∀W,Rd W sa (bB l)->∀i,i<LL->∃b o,sa=some ⟨b,o,none⟩/\W.cell? ⟨b,o+i*3,none⟩=some (.int .i64 (l.getD i (0,0,0)).1)/\W.cell? ⟨b,o+i*3+1,none⟩=some (.int .i64 (l.getD i (0,0,0)).2.1)/\W.cell? ⟨b,o+i*3+2,none⟩=some (.int .i64 (l.getD i (0,0,0)).2.2)):=hd (fun W h i hi=>zW h i (by rw [zy.out];exact hi));obtain ⟨Q,hQ⟩:∃Q:Ending->World->Prop,Hid (zX w (dG c a l)=Q):=⟨_,rfl⟩;rw [hQ.out]at HE⊢;clear hS hl HC HS hx ai cD aX HV hF ha hQ;go_enter func6,ntmps6;go_upto_region 1 with fail;rw [aR.out,aT.out];go_wp2_with fail;go_loopg [7,9,12,13,14,15,16,17,18,19,20,21,22,23,24,25] LL (fun g v7 _ v12 _ _ _ _ _ _ _ _ _ _ _ _ _ wr=>∃(i n k:Nat) (b:Option Addr),i+g=LL/\v12=.int .i64 (i:Int)/\v7=.slice b n k/\Hid (n=(dG c a (l.take i)).length/\F (dG c a (l.take i)) b k wr))
 case atStart=>exact ⟨0,0,0,none,by omega,by go_num,rfl,hd ⟨by rfl,qd.out⟩⟩
 case round=>
  obtain ⟨i,n,k,b,hi,rfl,rfl,HF⟩:=hrel;by_cases h0:gk=0
  · subst h0;have dH:decide ((i:Int)<(LL:Int))=false:=by simp;omega
    have tQ:(LL:Int)<=(i:Int):=by omega
    have Cv:Hid (Q (.returned (.slice b n k)) wr):=hd (by
     obtain ⟨e1,e2⟩:=HF.out;have e:i=LL:=by omega
     rw [e,nV.out]at e1 e2;rw [e1]
     exact HE.out b k wr e2)
    clear HF HE HT mO qd nV Bt HP HH Bu Dv Bv;go_wp2_with fail;exact Cv.out
  · have af:(i:Int)<(LL:Int):=by omega
    obtain ⟨q1,q2,rfl,c0,c1,c2⟩:=Bv.out wr (Bu.out _ _ _ _ HF.out.2) i (by omega);have yR:=hd (mO.out i);have fP:=hd (HT.out i (by omega));have HN:=hd HF.out.1;replace HF:=hd HF.out.2;clear HE HT mO qd nV Bu Bv;obtain ⟨s0,bu⟩:=Haa (l.getD i (0,0,0));rw [bu.out]at fP c0 c1 c2;obtain ⟨m0,ud⟩:=Haa (dG c a (l.take i));obtain ⟨m1,di⟩:=Haa (dG c a (l.take (i+1)));rw [ud.out]at fP HF HN yR;rw [di.out]at fP;have Fj:Hid (∀W,F m1 b k W->F (dG c a (l.take (i+1))) b k W):=hd (fun W h=>by rw [di.out];exact h);obtain ⟨k0,k1,k2⟩:=s0;dsimp only at c0 c1 c2;have bZ:Calls prog 10 #[.agg #[v0,v1,v2,v3,v4,v5,v6],.agg #[.int .i64 k0,.int .i64 k1,.int .i64 k2],.int .u64 (a:Int)] (wr.alloc (.cells #[.int .i64 k0,.int .i64 k1,.int .i64 k2] 32)) fun e w'=>e=.returned (.bool (hid c a (k0,k1,k2)))/\Hid (F m0 b k w'/\w'.cell? ⟨wr.heap.size,0,none⟩=some (.int .i64 k0)/\w'.cell? ⟨wr.heap.size,1,none⟩=some (.int .i64 k1)/\w'.cell? ⟨wr.heap.size,2,none⟩=some (.int .i64 k2)):=by
     refine (HH.out _ _ _ _ (Bt.out _ _ _ _ _ HF.out (aA wr _)) (k0,k1,k2)).mono fun e w' he=>⟨he.1,hd ⟨he.2.out.1, ?_⟩⟩
     have hx:=aae wr (.cells #[.int .i64 k0,.int .i64 k1,.int .i64 k2] 32);have h:∀j u,#[Value.int .i64 k0,.int .i64 k1,.int .i64 k2][j]?=some u->w'.cell? ⟨wr.heap.size,j,none⟩=some u:=fun j u hj=>by
      rw [aaa _ _ _ _ _ _ ((he.2.out.2.block _ (aab.1 hx).1).trans hx)];exact hj
     exact ⟨h 0 _ rfl,h 1 _ rfl,h 2 _ rfl⟩
    obtain ⟨d0,d1,d2,d3,d4,d5,d6⟩:=Dv.out _ _ _ _ (Bt.out _ _ _ _ _ HF.out (aA wr (.cells #[.int .i64 k0,.int .i64 k1,.int .i64 k2] 32)))
    have Dw:Hid (∀W,F m0 b k W->∃a' c' w',Hid (∀ty,(Builtin.append_ #[27,27] ty #[.slice b n k,.slice (some ⟨W.heap.size,0,none⟩) 1 1]).run prog (W.alloc (.cells #[.int .i64 k0,.int .i64 k1,.int .i64 k2] 32))=.ok (.slice a' (n+1) c') w')/\Hid (F (m0++[(k0,k1,k2)]) a' c' w')):=hd (fun W hf=>by
     obtain ⟨a',c',w',h1,h2⟩:=HP.out m0 b k W (k0,k1,k2) hf yR.out;refine ⟨a',c',w',hd (fun ty=> ?_),h2⟩;have:=h1.out ty;rw [aal,<-HN.out]at this
     exact this)
    clear Dv Bt HP HH HF yR bu ud;obtain ⟨h,hh⟩:=Haa (hid c a (k0,k1,k2));rw [hh.out]at fP bZ;clear hh
    cases h
    · have e:m1=m0++[(k0,k1,k2)]:=by simpa using fP.out
      have HG:Hid (∀W b' k',F (m0++[(k0,k1,k2)]) b' k' W->Hid (n+1=(dG c a (l.take (i+1))).length/\F (dG c a (l.take (i+1))) b' k' W)):=hd (fun W b' k' hf=>hd ⟨by rw [di.out,e,aal,<-HN.out];rfl,by rw [di.out,e];exact hf⟩);clear di Fj fP e HN;go_upto_region 6 with(go_at_call 10;(with_reducible refine bZ.mono ?_);rintro e w2 ⟨rfl,h2⟩;obtain ⟨h3,x0,x1,x2⟩:=h2.out;obtain ⟨a',c',w3,aO,yt⟩:=Dw.out w2 h3;clear bZ Dw h2 h3);go_wp2_with (at_builtin;refine dZ rfl _ _ _ rfl _ _ _ _ rfl rfl aO.out ?_;clear aO);have HZ:=HG.out _ _ _ yt.out;go_roundg (gk-1)
      case rel=>exact ⟨i+1,n+1,c',a',by omega,by go_num,rfl,HZ⟩
      case measure=>omega
    · have e:m1=m0:=by simpa using fP.out
      have HG:Hid (∀W,F m0 b k W->Hid (n=(dG c a (l.take (i+1))).length/\F (dG c a (l.take (i+1))) b k W)):=hd (fun W hf=>hd ⟨by rw [di.out,e];exact HN.out,Fj.out W (by rw [e];exact hf)⟩);clear di Fj fP e HN Dw;go_wp2_with (go_at_call 10;(with_reducible refine bZ.mono ?_);rintro e w2 ⟨rfl,h2⟩;have HZ:=HG.out _ h2.out.1;clear bZ h2 HG);go_roundg (gk-1)
      case rel=>exact ⟨i+1,n,k,b,by omega,by go_num,rfl,HZ⟩
      case measure=>omega
structure pH(G:World->Prop)where
 val:World
 ok:G val
theorem rpurge_any{cs:List Value}(hc:View.fE w cs c)(a:Nat)(ha:a<18446744073709551616)(sa:Option Addr)(sc:Nat)(l:List cK)(hS:Rd w sa (bB l))(hl:l.length<=1048576):
 Calls prog 5 #[.agg cs.toArray,.slice sa l.length sc,.int .u64 (a:Int)] w (zX w (dG c a l)):=by
 have HC:Hid (∀W,Below w.heap.size w W->View.fE W cs c):=hd (fun W hb=>View.fE.below hb hc);have HS:Hid (∀W,Below w.heap.size w W->Rd W sa (bB l)):=hd (fun W hb=>hS.below hb);obtain ⟨v0,v1,v2,v3,v4,v5,v6,rfl,-,-⟩:=hc;have hx:=aae w (.cells #[v0,v1,v2,v3,v4,v5,v6] 26);have ai:=aA w (.cells #[v0,v1,v2,v3,v4,v5,v6] 26);obtain ⟨w1,aR⟩:=Haa (w.alloc (.cells #[v0,v1,v2,v3,v4,v5,v6] 26));obtain ⟨bx,aT⟩:=Haa w.heap.size;have cD:w1.heap.size=bx+1:=by rw [<-aR.out,<-aT.out];simp
 rw [aR.out]at hx ai;have aX:=hd ai
 have HV:Hid (∀W,Below w1.heap.size w1 W->W.cell? ⟨bx,0,none⟩=some v0/\W.cell? ⟨bx,1,none⟩=some v1/\W.cell? ⟨bx,2,none⟩=some v2/\W.cell? ⟨bx,3,none⟩=some v3/\W.cell? ⟨bx,4,none⟩=some v4/\W.cell? ⟨bx,5,none⟩=some v5/\W.cell? ⟨bx,6,none⟩=some v6):=hd (fun W hb=>by
  rw [aT.out]at hx;have h:∀j u,#[v0,v1,v2,v3,v4,v5,v6][j]?=some u->W.cell? ⟨bx,j,none⟩=some u:=fun j u hj=>by
   rw [aaa _ _ _ _ _ _ ((hb.block bx (by omega)).trans hx)];exact hj
  exact ⟨h 0 _ rfl,h 1 _ rfl,h 2 _ rfl,h 3 _ rfl,h 4 _ rfl,h 5 _ rfl,h 6 _ rfl⟩)
 obtain ⟨F,hF⟩:∃F:List cK->Option Addr->Nat->World->Prop,Hid (∀m b k W,F m b k W↔Own w1.heap.size m b k W/\Below w1.heap.size w1 W):=⟨_,hd (fun _ _ _ _=>Iff.rfl)⟩
 have HE:Hid (∀b k W,F (dG c a l) b k W->zX w (dG c a l) (.returned (.slice b (dG c a l).length k)) W):=hd (fun b k W hf=>by
  obtain ⟨h1,h2⟩:=(hF.out _ _ _ _).1 hf
  exact ⟨b,k,rfl,⟨h1.row,fun q hq=>aai aX.out.size (h1.ge q hq)⟩,aX.out.trans (h2.mono aX.out.size)⟩)
 have HT:=hd (Ux c a l);have mO:Hid (∀i,(dG c a (l.take i)).length<=1048576):=hd (fun i=>aai (Gj c a _) (aai (by rw [aa4];omega) hl));have qd:Hid (F (dG c a (l.take 0)) (some ⟨w1.heap.size,0,none⟩) 0 (w1.alloc (.cells #[] 32))):=hd ((hF.out _ _ _ _).2 ⟨by rw [List.take_zero];exact ⟨mZ (n:=0) (cs:=#[]) (aae w1 _) (by simp) (aaq _),fun k hk=>by cases hk;exact aag _⟩,aA w1 _⟩);have nV:Hid (dG c a (l.take l.length)=dG c a l):=hd (by rw [abg])
 have Bt:Hid (∀m b k W W',F m b k W->Below W.heap.size W W'->F m b k W'):=hd (fun m b k W W' hf hb=>by
  obtain ⟨h1,h2⟩:=(hF.out _ _ _ _).1 hf
  exact (hF.out _ _ _ _).2 ⟨h1.below hb,h2.trans (hb.mono h2.size)⟩)
 have HP:Hid (∀m b k W (s:cK),F m b k W->m.length<=1048576->∃a' c' w',Hid (∀ty,(Builtin.append_ #[27,27] ty #[.slice b m.length k,.slice (some ⟨W.heap.size,0,none⟩) 1 1]).run prog (W.alloc (.cells #[.int .i64 s.1,.int .i64 s.2.1,.int .i64 s.2.2] 32))=.ok (.slice a' (m++[s]).length c') w')/\Hid (F (m++[s]) a' c' w')):=hd (fun m b k W s hf hm=>by
  obtain ⟨h1,h2⟩:=(hF.out _ _ _ _).1 hf;obtain ⟨a',c',w',k1,k2⟩:=h1.push h2.size (by omega) s
  exact ⟨a',c',w',k1,hd ((hF.out _ _ _ _).2 ⟨k2.out.1,h2.trans k2.out.2⟩)⟩)
 have HH:Hid (∀m b k W,F m b k W->∀s:cK,Calls prog 9 #[.agg #[v0,v1,v2,v3,v4,v5,v6],.agg #[.int .i64 s.1,.int .i64 s.2.1,.int .i64 s.2.2],.int .u64 (a:Int)] W fun e w'=>e=.returned (.bool (hid c a s))/\Hid (F m b k w'/\Below W.heap.size W w')):=hd (fun m b k W hf s=>by
  obtain ⟨h1,h2⟩:=(hF.out _ _ _ _).1 hf
  refine (rhidden_any (HC.out W (aX.out.trans (h2.mono aX.out.size))) s.1 s.2.1 s.2.2 a ha).mono fun e w' he=>⟨he.1,hd ⟨(hF.out _ _ _ _).2 ⟨h1.below he.2,h2.trans (he.2.mono h2.size)⟩,he.2⟩⟩)
 have Bu:Hid (∀m b k W,F m b k W->Rd W sa (bB l)):=hd (fun m b k W hf=>HS.out W (aX.out.trans (((hF.out _ _ _ _).1 hf).2.mono aX.out.size)));have Dv:Hid (∀m b k W,F m b k W->W.cell? ⟨bx,0,none⟩=some v0/\W.cell? ⟨bx,1,none⟩=some v1/\W.cell? ⟨bx,2,none⟩=some v2/\W.cell? ⟨bx,3,none⟩=some v3/\W.cell? ⟨bx,4,none⟩=some v4/\W.cell? ⟨bx,5,none⟩=some v5/\W.cell? ⟨bx,6,none⟩=some v6):=hd (fun m b k W hf=>HV.out W ((hF.out _ _ _ _).1 hf).2);obtain ⟨LL,zy⟩:=Haa l.length;have yD:LL<=1048576:=by rw [<-zy.out];exact hl
 rw [zy.out]at HT nV;rw [zy.out];have Bv:Hid (∀W,Rd W sa (bB l)->∀i,i<LL->∃b o,sa=some ⟨b,o,none⟩/\W.cell? ⟨b,o+i*3,none⟩=some (.int .i64 (l.getD i (0,0,0)).1)/\W.cell? ⟨b,o+i*3+1,none⟩=some (.int .i64 (l.getD i (0,0,0)).2.1)/\W.cell? ⟨b,o+i*3+2,none⟩=some (.int .i64 (l.getD i (0,0,0)).2.2)):=hd (fun W h i hi=>zW h i (by rw [zy.out];exact hi));obtain ⟨Q,hQ⟩:∃Q:Ending->World->Prop,Hid (zX w (dG c a l)=Q):=⟨_,rfl⟩;rw [hQ.out]at HE⊢;clear hS hl HC HS hx ai cD aX HV hF ha hQ;go_enter func5,ntmps5;go_upto_region 1 with fail;rw [aR.out,aT.out];go_wp2_with fail;go_loopg [7,8,9,11,12,13,14,15,16,17,18,19,20,21,22,23,24,25,26,27,28,29,30,31,32] LL (fun g v7 v8 _ _ _ _ _ _ _ _ _ _ _ _ _ _ _ _ _ _ _ _ _ _ _ wr=>∃(i n k:Nat) (b:Option Addr),i+g=LL/\v8=.int .i64 (i:Int)/\v7=.slice b n k/\Hid (n=(dG c a (l.take i)).length/\F (dG c a (l.take i)) b k wr))
 case atStart=>exact ⟨0,0,0,_,by omega,by go_num,rfl,hd ⟨by rfl,qd.out⟩⟩
 case round=>
  obtain ⟨i,n,k,b,hi,rfl,rfl,HF⟩:=hrel;by_cases h0:gk=0
  · subst h0;have dH:decide ((i:Int)<(LL:Int))=false:=by simp;omega
    have tQ:(LL:Int)<=(i:Int):=by omega
    have Cv:Hid (Q (.returned (.slice b n k)) wr):=hd (by
     obtain ⟨e1,e2⟩:=HF.out;have e:i=LL:=by omega
     rw [e,nV.out]at e1 e2;rw [e1]
     exact HE.out b k wr e2)
    clear HF HE HT mO qd nV Bt HP HH Bu Dv Bv;go_wp2_with fail;exact Cv.out
  · have af:(i:Int)<(LL:Int):=by omega
    obtain ⟨q1,q2,rfl,-⟩:=Bv.out wr (Bu.out _ _ _ _ HF.out.2) i (by omega);have yR:=hd (mO.out i);have fP:=hd (HT.out i (by omega));have HN:=hd HF.out.1;replace HF:=hd HF.out.2
    have E_:Hid (∀m b k W,F m b k W->W.cell? ⟨q1,q2+i*3,none⟩=some (.int .i64 (l.getD i (0,0,0)).1)/\W.cell? ⟨q1,q2+i*3+1,none⟩=some (.int .i64 (l.getD i (0,0,0)).2.1)/\W.cell? ⟨q1,q2+i*3+2,none⟩=some (.int .i64 (l.getD i (0,0,0)).2.2)):=hd (fun m b k W hf=>by
     obtain ⟨_,_,e,h⟩:=Bv.out W (Bu.out _ _ _ _ hf) i (by omega)
     cases e
     exact h)
    clear HE HT mO qd nV Bu Bv;obtain ⟨s0,bu⟩:=Haa (l.getD i (0,0,0));rw [bu.out]at fP E_;obtain ⟨m0,ud⟩:=Haa (dG c a (l.take i));obtain ⟨m1,di⟩:=Haa (dG c a (l.take (i+1)));rw [ud.out]at fP HF HN yR;rw [di.out]at fP;have Fj:Hid (∀W,F m1 b k W->F (dG c a (l.take (i+1))) b k W):=hd (fun W h=>by rw [di.out];exact h);obtain ⟨k0,k1,k2⟩:=s0;have yT:Hid (∀W,F m0 b k W->Calls prog 9 #[.agg #[v0,v1,v2,v3,v4,v5,v6],.agg #[.int .i64 k0,.int .i64 k1,.int .i64 k2],.int .u64 (a:Int)] W fun e w'=>e=.returned (.bool (hid c a (k0,k1,k2)))/\Hid (F m0 b k w')):=hd (fun W hf=>(HH.out _ _ _ _ hf (k0,k1,k2)).mono fun e w' he=>⟨he.1,hd he.2.out.1⟩)
    have Dw:Hid (∀W,F m0 b k W->∃a' c' w',Hid (∀ty,(Builtin.append_ #[27,27] ty #[.slice b n k,.slice (some ⟨W.heap.size,0,none⟩) 1 1]).run prog (W.alloc (.cells #[.int .i64 k0,.int .i64 k1,.int .i64 k2] 32))=.ok (.slice a' (n+1) c') w')/\Hid (F (m0++[(k0,k1,k2)]) a' c' w')):=hd (fun W hf=>by
     obtain ⟨a',c',w',h1,h2⟩:=HP.out m0 b k W (k0,k1,k2) hf yR.out;refine ⟨a',c',w',hd (fun ty=> ?_),h2⟩;have:=h1.out ty;rw [aal,<-HN.out]at this
     exact this)
    have wY:Hid (∀W n,F m0 b k W->F m0 b k (W.drewN n)):=hd (fun W n hf=>Bt.out _ _ _ _ _ hf (ck W n));clear Bt HP HH yR bu ud
    have xL:Hid (∀W,F m0 b k W->W.cell? ⟨bx,0,none⟩=some v0/\W.cell? ⟨bx,1,none⟩=some v1/\W.cell? ⟨bx,2,none⟩=some v2/\W.cell? ⟨bx,3,none⟩=some v3/\W.cell? ⟨bx,4,none⟩=some v4/\W.cell? ⟨bx,5,none⟩=some v5/\W.cell? ⟨bx,6,none⟩=some v6/\W.cell? ⟨q1,q2+i*3,none⟩=some (.int .i64 k0)/\W.cell? ⟨q1,q2+i*3+1,none⟩=some (.int .i64 k1)/\W.cell? ⟨q1,q2+i*3+2,none⟩=some (.int .i64 k2)):=hd (fun W hf=>by
     obtain ⟨h0,h1,h2,h3,h4,h5,h6⟩:=Dv.out _ _ _ _ hf;obtain ⟨h7,h8,h9⟩:=E_.out _ _ _ _ hf
     exact ⟨h0,h1,h2,h3,h4,h5,h6,h7,h8,h9⟩)
    clear Dv E_;obtain ⟨h,hh⟩:=Haa (hid c a (k0,k1,k2));rw [hh.out]at fP yT;clear hh
    have nW:Hid (h=false->∀W b' k',F (m0++[(k0,k1,k2)]) b' k' W->Hid (n+1=(dG c a (l.take (i+1))).length/\F (dG c a (l.take (i+1))) b' k' W)):=hd (fun e0 W b' k' hf=>by
     have e:m1=m0++[(k0,k1,k2)]:=by rw [e0]at fP;simpa using fP.out
     exact hd ⟨by rw [di.out,e,aal,<-HN.out];rfl,by rw [di.out,e];exact hf⟩)
    have yN:Hid (h=true->∀W,F m0 b k W->Hid (n=(dG c a (l.take (i+1))).length/\F (dG c a (l.take (i+1))) b k W)):=hd (fun e0 W hf=>by
     have e:m1=m0:=by rw [e0]at fP;simpa using fP.out
     exact hd ⟨by rw [di.out,e];exact HN.out,Fj.out W (by rw [e];exact hf)⟩)
    clear di Fj fP HN;obtain ⟨G,hG⟩:∃G:World->Prop,Hid (∀W,G W↔F m0 b k W):=⟨_,hd (fun _=>Iff.rfl)⟩;have d0:∀p:pH G,p.val.cell? ⟨bx,0,none⟩=some v0:=fun p=>(xL.out _ ((hG.out _).1 p.ok)).1
    have d1:∀p:pH G,p.val.cell? ⟨bx,1,none⟩=some v1:=fun p=>(xL.out _ ((hG.out _).1 p.ok)).2.1
    have d2:∀p:pH G,p.val.cell? ⟨bx,2,none⟩=some v2:=fun p=>(xL.out _ ((hG.out _).1 p.ok)).2.2.1
    have d3:∀p:pH G,p.val.cell? ⟨bx,3,none⟩=some v3:=fun p=>(xL.out _ ((hG.out _).1 p.ok)).2.2.2.1
    have d4:∀p:pH G,p.val.cell? ⟨bx,4,none⟩=some v4:=fun p=>(xL.out _ ((hG.out _).1 p.ok)).2.2.2.2.1
    have d5:∀p:pH G,p.val.cell? ⟨bx,5,none⟩=some v5:=fun p=>(xL.out _ ((hG.out _).1 p.ok)).2.2.2.2.2.1
    have d6:∀p:pH G,p.val.cell? ⟨bx,6,none⟩=some v6:=fun p=>(xL.out _ ((hG.out _).1 p.ok)).2.2.2.2.2.2.1
    have d7:∀p:pH G,p.val.cell? ⟨q1,q2+i*3,none⟩=some (.int .i64 k0):=fun p=>(xL.out _ ((hG.out _).1 p.ok)).2.2.2.2.2.2.2.1
    have d8:∀p:pH G,p.val.cell? ⟨q1,q2+i*3+1,none⟩=some (.int .i64 k1):=fun p=>(xL.out _ ((hG.out _).1 p.ok)).2.2.2.2.2.2.2.2.1
    have d9:∀p:pH G,p.val.cell? ⟨q1,q2+i*3+2,none⟩=some (.int .i64 k2):=fun p=>(xL.out _ ((hG.out _).1 p.ok)).2.2.2.2.2.2.2.2.2
    have qq:∀p:pH G,Calls prog 9 #[.agg #[v0,v1,v2,v3,v4,v5,v6],.agg #[.int .i64 k0,.int .i64 k1,.int .i64 k2],.int .u64 (a:Int)] p.val fun e w'=>e=.returned (.bool h)/\∃p':pH G,w'=p'.val:=fun p=>(yT.out _ ((hG.out _).1 p.ok)).mono fun e w' he=>⟨he.1,⟨w',(hG.out _).2 he.2.out⟩,rfl⟩
    have Ml:Hid (∀p:pH G,F m0 b k p.val):=hd (fun p=>(hG.out _).1 p.ok);have wT:Nonempty (pH G):=⟨⟨wr,(hG.out _).2 HF.out⟩⟩;have R5:Hid (G wr.drew):=hd ((hG.out _).2 (wY.out wr 1 HF.out));clear hG yT HF wY;go_upto_region 5 with fail;refine DE (α:=pH G) pH.val (by kernel_rfl) (by kernel_rfl) ⟨wr.drew,R5.out⟩ rfl ?_;repeat(go_big_quiet_step (with_reducible exact qq _))
    refine wpQuiet_nil ?_;rintro w2 ⟨p,rfl⟩
    cases h
    · obtain ⟨a',c',w3,aO,yt⟩:=Dw.out _ (Ml.out p);have HZ:=nW.out rfl _ _ _ yt.out;clear nW yN Dw Ml R5 qq;go_wp2_with (at_builtin;refine dZ rfl _ _ _ rfl _ _ _ _ rfl rfl aO.out ?_;clear aO);go_roundg (gk-1)
      case rel=>exact ⟨i+1,n+1,c',a',by omega,by go_num,rfl,HZ⟩
      case measure=>omega
    · have HZ:=yN.out rfl _ (Ml.out p);clear nW yN Dw Ml R5 qq d0 d1 d2 d3 d4 d5 d6 d7 d8 d9;go_wp2_with fail;go_roundg (gk-1)
      case rel=>exact ⟨i+1,n,k,b,by omega,by go_num,rfl,HZ⟩
      case measure=>omega
theorem make_cap(t e:TypeId)(z:Value)(size bytes:Nat)(ht:prog.underlying t=some (.slice e))(hi:(prog.info? e).map (fun i=>(i.zero,i.size,i.bytes))=some (some z,size,bytes))(n:Nat)(hb:bytes*n<=281474976710656)(h63:n<=maxLen)(W:World):
 (Instr.makeSlice t (.int .i64 0) (.int .i64 (n:Int))).run prog W=.ok (.slice (some ⟨W.heap.size,0,none⟩) 0 n) (W.alloc (.cells (madeCells z.cells (n*size)) e)):=by
 obtain ⟨i,h1,h2,h3,h4⟩:=info_parts hi;subst h3 h4;have xX:(n:Int)<=9223372036854775807:=by
  have h:=h63;simp [maxLen]at h;omega
 have eW:(i.bytes:Int)*(n:Int)<=281474976710656:=by
  have h:((i.bytes*n:Nat):Int)<=281474976710656:=by omega
  rwa [Int.natCast_mul]at h
 have hr:=run_make (P:=prog) W t e i z ht h1 h2 .i64 .i64 0 n (by omega) (by omega) eW xX;simp only [Int.toNat_natCast,Int.toNat_zero]at hr;exact hr
theorem pushM(hu:prog.underlying T=some (.slice e))(kI:(prog.info? e).map (fun i=>(i.zero,i.size,i.bytes))=some (some z,size,bytes))(gI:z.cells.size=size)(oF:bytes<=64)
 {w:World}{a:Option Addr}{n c:Nat}{xs:List Value}(hR:Row w e size a n c xs)(hn:n<=1000000000000)(us:List Value){m:Nat}(hm:m<=1000)(yq:us.length=m*size)(h1:∀u∈us,u.oneCell'=true){cs:Array Value}(hcs:cs=us.toArray):
 ∃a' c' w',(∀ty,(Builtin.append_ #[T,T] ty #[.slice a n c,.slice (some ⟨w.heap.size,0,none⟩) m m]).run prog (w.alloc (.cells cs e))=.ok (.slice a' (n+m) c') w')/\
  Row w' e size a' (n+m) c' (xs++us)/\Mod (fun k=>ae a=some k) w w'/\(∀k,ae a'=some k->ae a=some k\/w.heap.size<=k):=by
 subst hcs;obtain ⟨i,k1,k2,k3,k4⟩:=info_parts kI;have hb:=aA w (.cells us.toArray e);have hh:=aae w (.cells us.toArray e);have hs:Src prog size T (.slice (some ⟨w.heap.size,0,none⟩) m m) m us (w.alloc (.cells us.toArray e)):=by
  refine Src.ofSlice _ hu _ _ _ _ yq (fun j u hj=> ?_) h1;rw [kO,aaa _ _ _ _ _ _ hh,aaH];simpa using hj
 obtain ⟨a',c',w',m1,m2,m3,m4,_⟩:=mD (P:=prog) _ T e i _ size bytes hu k1 k2 k3 k4 gI (hR.below hb) _ m _ hs (by unfold maxLen;omega) (by
  have:(n+m)*bytes<=(n+m)*64:=abj _ oF
  omega)
 refine ⟨a',c',w',m1,m2,(Mod.aS _ hb).trans m3 (fun _ h=> .inl h),fun k hk=> ?_⟩;rcases m4 k hk with h|h
 ·exact .inl h
 ·exact .inr (by have:=hb.size;omega)
structure Roomy2(T e:TypeId)(size:Nat)(W:World)(a:Option Addr)(n c:Nat)(xs:List Value)(w1:World)(a2:Option Addr)(c2:Nat)(w2:World):Prop where
 made:(Instr.makeSlice T (.int .i64 0) (.int .i64 ((n:Int)+2))).run prog W=.ok (.slice (some ⟨W.heap.size,0,none⟩) 0 (n+2)) w1
 ap:∀ty,(Builtin.append_ #[T,T] ty #[.slice (some ⟨W.heap.size,0,none⟩) 0 (n+2),.slice a n c]).run prog w1=.ok (.slice a2 n c2) w2
 b1:Below W.heap.size W w1
 b2:Below W.heap.size W w2
 row:Row w2 e size a2 n c2 xs
 new:∀k,ae a2=some k->W.heap.size<=k
theorem made2(hu:prog.underlying T=some (.slice e))(kI:(prog.info? e).map (fun i=>(i.zero,i.size,i.bytes))=some (some z,size,bytes))(oF:bytes<=64)(W:World)(hn:n<=3000000):
 ∃w1,(Instr.makeSlice T (.int .i64 0) (.int .i64 ((n:Int)+2))).run prog W=.ok (.slice (some ⟨W.heap.size,0,none⟩) 0 (n+2)) w1/\Below W.heap.size W w1/\Row w1 e size (some ⟨W.heap.size,0,none⟩) 0 (n+2) []:=by
 have fZ:bytes*(n+2)<=64*(n+2):=aaI _ oF;have iJ:=make_cap T e z size bytes hu kI (n+2) (by omega) (by unfold maxLen;omega) W;obtain ⟨w1,aR⟩:∃V,W.alloc (.cells (madeCells z.cells ((n+2)*size)) e)=V:=⟨_,rfl⟩;have hh:=aae W (.cells (madeCells z.cells ((n+2)*size)) e);have dM:=aA W (.cells (madeCells z.cells ((n+2)*size)) e);rw [aR]at iJ hh dM;have hr:=(mZ (size:=size) (n:=n+2) hh (by simp [madeCells]) (by unfold maxLen;omega)).cut 0 (n+2) (aaq _) (aaq _) (aag _) (fun e=>by cases e);simp only [Nat.zero_mul,List.take_zero]at hr;refine ⟨w1, ?_,dM,hr⟩;have:((n+2:Nat):Int)=(n:Int)+2:=by omega
 rw [this]at iJ;exact iJ
theorem roomy(bu:0<size)(hu:prog.underlying T=some (.slice e))(kI:(prog.info? e).map (fun i=>(i.zero,i.size,i.bytes))=some (some z,size,bytes))(gI:z.cells.size=size)(oF:bytes<=64)
 (W:World){a:Option Addr}{n c:Nat}{xs:List Value}(hR:Rd W a xs)(hl:xs.length=n*size)(h1:∀u∈xs,u.oneCell'=true)(hn:n<=3000000):
 ∃w1 a2 c2 w2,Roomy2 T e size W a n c xs w1 a2 c2 w2:=by
 obtain ⟨i,k1,k2,k3,k4⟩:=info_parts kI;obtain ⟨w1,iJ,dM,hr⟩:=made2 (size:=size) hu kI oF W hn
 obtain ⟨a2,c2,w2,m1,m2,m3,m4,_⟩:=mD (P:=prog) w1 T e i _ size bytes hu k1 k2 k3 k4 gI hr (.slice a n c) n xs ((hR.below dM).src hu hl bu h1) (by unfold maxLen;omega) (by
  have:(0+n)*bytes<=(0+n)*64:=abj _ oF
  omega)
 simp only [Nat.zero_add,List.nil_append]at m1 m2;refine ⟨w1,a2,c2,w2,⟨iJ,m1,dM,dM.trans (m3.below dM.size (fun k _ e=>by cases e;exact aag _)),m2,fun k hk=> ?_⟩⟩;rcases m4 k hk with h|h
 ·cases h;exact aag _
 ·exact aai dM.size h
theorem bT.plus{ds:List gV}(h:bT B W ds)(hB:B<=W.heap.size)(hb:Below W.heap.size W W'){d:gV}(hd:d.ok W')(hn:∀k,ae d.a=some k->W.heap.size<=k):bT B W' (d::ds):=
 (h.below hb).cons hd (fun k hk=>aai hB (hn k hk)) (fun d' qT k hk e=>by have h1:=hn k hk;have h2:=h.lt d' qT k e;omega)
theorem Row.short{e:Nat}{c:Nat}(h:Row W e size a (n+2) c (xs++us))(hl:xs.length=n*size):Row W e size a n c xs:=by
 have hc:=h.zR;have h1:=h.cut n c (by omega) (by omega) (aag _) (fun e=>h.room e);rw [aaS (by omega),aap (by omega)]at h1;exact h1
theorem N8(h:Row w e size (some ⟨g,0,none⟩) n cap xs)(j:Nat)(hj:j<n*size)(v:Value):
 Row (w.setCell ⟨g,j,none⟩ v) e size (some ⟨g,0,none⟩) n cap (xs.set j v)/\Mod (fun k=>ae (some (⟨g,0,none⟩:Addr))=some k) w (w.setCell ⟨g,j,none⟩ v)/\(w.cell? ⟨g,j,none⟩).isSome=true/\w.frozen? ⟨g,j,none⟩=false:=by
 obtain ⟨h1,h2,h3,⟨h4,-⟩|⟨g',cur,h4,hg,hs,ht⟩⟩:=h
 ·cases h4
 ·cases h4
  have RI:j<cur.size:=by
   have:n*size<=cap*size:=aaI _ h2;omega
  refine ⟨⟨by rw [aaz];exact h1,h2,h3,.inr ⟨g,cur.setIfInBounds j v,rfl,aax w g j _ _ v hg,by simpa using hs, ?_⟩⟩,(Mod.refl (fun k=>ae (some (⟨g,0,none⟩:Addr))=some k) w).setCell (.inl (show ae (some (⟨g,0,none⟩:Addr))=some g from rfl)) v, ?_,by simp [World.frozen?,hg]⟩
  ·rw [Array.toList_setIfInBounds,List.take_set,ht]
  ·rw [aaa _ _ _ _ _ _ hg,Array.getElem?_eq_getElem RI];rfl
theorem Ny(h:Row w e size (some ⟨g,0,none⟩) n cap xs)(j:Nat)(v:Value)(hv:xs[j]?=some v):w.cell? ⟨g,j,none⟩=some v:=by
 obtain ⟨b,o,e,hc⟩:=h.rd j v hv
 cases e
 rw [aaH]at hc;exact hc
theorem row_free(h:Row w e size (some ⟨g,0,none⟩) n cap xs)(j:Nat):w.frozen? ⟨g,j,none⟩=false:=h.free j g rfl
theorem rd_off(h:Rd W (some ⟨b,0,none⟩) (xs++us))(hn:xs.length=n):Rd W (some ⟨b,n,none⟩) us:=fun j u hj=>by
 obtain ⟨b',o',e,hc⟩:=h (n+j) u (by rw [aan (by omega),hn,Nat.add_sub_cancel_left];exact hj)
 cases e
 rw [aaH]at hc;exact ⟨b,n,rfl,hc⟩
theorem WA(h:Rd W (some ⟨b,n,none⟩) us)(r:Nat)(u:Value)(hr:us[r]?=some u):W.cell? ⟨b,n+r,none⟩=some u:=by
 obtain ⟨b',o',e,hc⟩:=h r u hr
 cases e
 exact hc
theorem spC_one(l:List cK):∀u∈bB l,u.oneCell'=true:=fun u hu=>by
 simp only [bB,List.mem_flatMap]at hu;obtain ⟨s,-,hs⟩:=hu;simp only [pG,List.mem_cons,List.not_mem_nil,or_false]at hs;rcases hs with rfl|rfl|rfl<;>rfl
def zz:List Value:=[.int .i64 77,.int .i64 0,.int .i64 0,.int .i64 77,.int .i64 0,.int .i64 0]
structure Fv(w:World)(P l:List cK)(a7:Option Addr)(c7:Nat)(a2:Option Addr)(c2 wb wk:Nat)(a1:Option Addr)(n1 c1:Nat)(zs:List Value)(W:World):Prop where
 ow:bT w.heap.size W [⟨32,3,a1,n1,c1,zs⟩,⟨32,3,a7,P.length,c7,bB P⟩,⟨32,3,a2,P.length,c2,bB P⟩,⟨32,3,some ⟨wb,0,none⟩,l.length+2,wk,bB l++zz⟩]
 bl:Below w.heap.size w W
section
variable{w W W':World} {P l:List cK} {a7:Option Addr} {c7:Nat} {a2:Option Addr} {c2 wb wk:Nat} {a1:Option Addr} {n1 c1:Nat} {zs:List Value}
theorem Fv.below(h:Fv w P l a7 c7 a2 c2 wb wk a1 n1 c1 zs W)(hb:Below W.heap.size W W'):Fv w P l a7 c7 a2 c2 wb wk a1 n1 c1 zs W':=⟨h.ow.below hb,h.bl.trans (hb.mono h.bl.size)⟩
theorem Fv.want(h:Fv w P l a7 c7 a2 c2 wb wk a1 n1 c1 zs W):Rd W a7 (bB P):=(show Row W 32 3 a7 P.length c7 (bB P)from h.ow.ok (⟨32,3,a7,P.length,c7,bB P⟩:gV) (by simp)).rd
theorem Fv.two(h:Fv w P l a7 c7 a2 c2 wb wk a1 n1 c1 zs W):Rd W a2 (bB P):=(show Row W 32 3 a2 P.length c2 (bB P)from h.ow.ok (⟨32,3,a2,P.length,c2,bB P⟩:gV) (by simp)).rd
theorem Fv.VK(h:Fv w P l a7 c7 a2 c2 wb wk a1 n1 c1 zs W):Row W 32 3 (some ⟨wb,0,none⟩) (l.length+2) wk (bB l++zz):=h.ow.ok (⟨32,3,some ⟨wb,0,none⟩,l.length+2,wk,bB l++zz⟩:gV) (by simp)
theorem Fv.own(h:Fv w P l a7 c7 a2 c2 wb wk a1 n1 c1 zs W):Rd W (some ⟨wb,0,none⟩) (bB l):=(Row.short h.VK (JT l)).rd
theorem Fv.zz(h:Fv w P l a7 c7 a2 c2 wb wk a1 n1 c1 zs W):Rd W (some ⟨wb,l.length*3,none⟩) zz:=rd_off h.VK.rd (JT l)
theorem Fv.row(h:Fv w P l a7 c7 a2 c2 wb wk a1 n1 c1 zs W):Row W 32 3 a1 n1 c1 zs:=h.ow.head
theorem Fv.write(h:Fv w P l a7 c7 a2 c2 wb wk a1 n1 c1 zs W)(i:Nat)(hi:i<n1)(v0 v1 v2:Value):∃g,a1=some ⟨g,0,none⟩/\Fv w P l a7 c7 a2 c2 wb wk a1 n1 c1 (((zs.set (i*3) v0).set (i*3+1) v1).set (i*3+2) v2) (((W.setCell ⟨g,i*3,none⟩ v0).setCell ⟨g,i*3+1,none⟩ v1).setCell ⟨g,i*3+2,none⟩ v2)/\∀j,W.frozen? ⟨g,j,none⟩=false:=by
 obtain ⟨g,rfl⟩:=h.row.head (by omega);obtain ⟨r1,m1,-⟩:=N8 h.row (i*3) (by omega) v0;obtain ⟨r2,m2,-⟩:=N8 r1 (i*3+1) (by omega) v1;obtain ⟨r3,m3,-⟩:=N8 r2 (i*3+2) (by omega) v2;have hm:=(m1.trans m2 (fun _ e=> .inl e)).trans m3 (fun _ e=> .inl e);refine ⟨g,rfl,⟨bT.turn h.ow h.bl.size hm r3 (fun k hk=> .inl hk),h.bl.trans (hm.below h.bl.size (fun k _ hk=>h.ow.new _ aaA k hk))⟩,fun j=>row_free h.row j⟩
theorem Fv.push(h:Fv w P l a7 c7 a2 c2 wb wk a1 n1 c1 zs W)(hn:n1<=1000000000):∃a' c' w',Hid (∀ty,(Builtin.append_ #[27,27] ty #[.slice a1 n1 c1,.slice (some ⟨W.heap.size,0,none⟩) 1 1]).run prog (W.alloc (.cells #[.int .i64 98,.int .i64 0,.int .i64 0] 32))=.ok (.slice a' (n1+1) c') w')/\Hid (∃ys,Fv w P l a7 c7 a2 c2 wb wk a' (n1+1) c' ys w'):=by
 obtain ⟨a',c',w',k1,k2,k3,k4⟩:=mX underlying27 JD rfl (by omega) h.row (by omega) (pG (98,0,0)) rfl (by intro u hu;simp only [pG,List.mem_cons,List.not_mem_nil,or_false]at hu;rcases hu with rfl|rfl|rfl<;>rfl);exact ⟨a',c',w',hd k1,hd ⟨_,bT.turn h.ow h.bl.size k3 k2 k4,h.bl.trans (k3.below h.bl.size (fun k _ hk=>h.ow.new _ aaA k hk))⟩⟩
end
end Go.Proofs.YthopnfbjiifhhaaGreatDoor
