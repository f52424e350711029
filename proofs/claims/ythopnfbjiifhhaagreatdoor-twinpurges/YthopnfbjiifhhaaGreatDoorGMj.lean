/- An instruction keeps what must be; its tick. -/
import Derived.Test.YthopnfbjiifhhaaGreatDoorGMi
import Derived.Test.YthopnfbjiifhhaaGreatDoorGXMG
set_option maxHeartbeats 8000000
set_option maxRecDepth 100000
namespace Go.Proofs.YthopnfbjiifhhaaGreatDoor
open Go.Proofs.Tryz
section
variable{c:ak} {m:MS} {p q:Nat}
theorem aG.over(h:aG c m)(hc:dK c)(hp:p<c.procs.length)(st:Int):aG c (yc c m p st):=by
 rw [NW];simp only
 have h0:aG c (Eb m p st):=h.CE hp (fun _=>rfl) (fun _=>rfl) (fun _=>rfl) (fun _=>rfl);have h1:aG c (Ec c m p st):=aG.leaves p _ h0 (fun x hx=>(kG.1 hx).1);have h2:=h1.tY hc hp;have h3:=aG.gives _ h2.1 h2.2;have h4:=(h3.Xf hp).uQ hp;exact aG.tells _ h4.1 h4.2
theorem U6(c:ak)(m:MS)(p:Nat):qH c m p=Gh c (m.bM p fun x=>{x with core:=(eZ.uO (aB m p).core (cd c p) m.tick p).1}) p (eZ.uO (aB m p).core (cd c p) m.tick p).2.1:=by
 unfold qH Gh;rfl
theorem aG.Wg(h:aG c m)(hc:dK c)(hp:p<c.procs.length):aG c (qH c m p):=by
 rw [U6];generalize eZ.uO (aB m p).core (cd c p) m.tick p=r;have h1:=h.CE (f:=fun x=>{x with core:=r.1}) hp (fun _=>rfl) (fun _=>rfl) (fun _=>rfl) (fun _=>rfl);unfold Gh;split
 ·exact h1.over hc hp 5
 ·exact h1
theorem given_tick(x:Int):(qG m x).tick=m.tick:=by unfold qG;split<;>rfl
theorem Te(p:Nat):∀(L:List Nat) (m:MS),(ni m p L).tick=m.tick
 |[],_=>rfl
 |q::r,m=>(Te p r (m.bM q fun x=>{x with ss:=(aL.rU x.ss p).2})).trans rfl
theorem Tf:∀(L:List (Int×Int)) (m:MS),(pR m L).tick=m.tick
 |[],_=>rfl
 |g::r,m=>(Tf r (qG m g.2)).trans (given_tick _)
theorem Tg(c:ak):∀(L:List (Int×Int)) (m:MS),(tJ c m L).tick=m.tick
 |[],_=>rfl
 |g::r,m=>(Tg c r (zV c m g.1.toNat 2)).trans rfl
theorem end_tick(st:Int):(yc c m p st).tick=m.tick:=by
 rw [NW];simp only
 rw [Tg];unfold uQ;rw [Jm,Jm,Tf];unfold tY;rw [tick_modT];unfold Ec;rw [Te];unfold Eb;rw [Jm]
theorem TK:(qH c m p).tick=m.tick:=by
 rw [U6];unfold Gh;split
 ·exact (end_tick _).trans rfl
 ·rfl
end
open Go.RowKit
section
variable{w w':World} {l:Lay} {m:MS} {U:Nat->Prop} {p q i j:Nat}
theorem Mk.slt(h:Mk w l U m):∃a cap,w.cell? ⟨l.bs,0,none⟩=some (.slice a l.c.table.length cap)/\Rd w a (iC l.c.table):=by
 obtain ⟨Fs,h1,_⟩:=h;obtain ⟨a,cap,h2,h3,_⟩:=h1.cmp .slt trivial;exact ⟨a,cap,by rw [aaa _ _ _ _ _ _ h2];rfl,h3.rd⟩
theorem TG{bs:Nat}{a:Option Addr}{n cap:Nat}(c0:w.cell? ⟨bs,0,none⟩=some (.slice a n cap)):Calls prog 148 #[.pointer (some ⟨bs,0,none⟩)] w fun e w'=>e=.returned (.int .i64 (n:Int))/\w'=w:=by
 go_enter func148,ntmps148
 go_wp2
 go_ret;exact ⟨rfl,rfl⟩
theorem owner_any{bs:Nat}{a:Option Addr}{cap:Nat}{tb:List Int}{T:Int}(c0:w.cell? ⟨bs,0,none⟩=some (.slice a tb.length cap))(hR:Rd w a (iC tb))(h0:0<tb.length)(h64:tb.length<=64)(hT:0<=T):Calls prog 126 #[.pointer (some ⟨bs,0,none⟩),.int .i64 T] w fun e w'=>e=.returned (.int .i64 (tb.getD (T.toNat% tb.length) 0))/\∃n,w'=w.drewN n:=by
 obtain ⟨b,o,rfl,hc⟩:=Og hR h0;obtain ⟨n,hn⟩:=Haa tb.length;obtain ⟨R,uF⟩:=Haa (T.toNat% tb.length);have Y0:R<n:=by rw [<-uF.out,hn.out];exact Nat.mod_lt _ (by rw [<-hn.out];exact h0)
 have Ko:T.tmod (n:Int)=(R:Int):=by
  rw [<-uF.out,hn.out];obtain ⟨t,rfl⟩:∃t:Nat,T=(t:Int):=⟨T.toNat,by omega⟩;rw [aa7];exact (Int.ofNat_tmod _ _).symm
 have cR:=hc R (by rw [hn.out];exact Y0);rw [uF.out];rw [hn.out]at c0 h0 h64;generalize tb.getD R 0=X at*
 have hRn':(R:Int)<(n:Int):=by omega
 have wM:(n:Int)≠0:=by omega
 have hn0':n≠0:=by omega
 have Bc:decide (T<0)=false:=by simpa using hT
 have AY:∀d,Calls prog 148 #[.pointer (some ⟨bs,0,none⟩)] (w.drewN d) fun e w'=>e=.returned (.int .i64 (n:Int))/\w'=w.drewN d:=fun d=>TG (w:=w.drewN d) c0
 clear hc hR hn uF;go_enter func126,ntmps126;go_upto_region 3 with fail;go_quiet (first|(go_at_call 148;exact Calls.quiet_of_same (AY _)))
 go_wp2
 go_ret;exact ⟨rfl,_,rfl⟩
theorem Mk.setTick(h:Mk w l U m)(t:Int):dm w l U {m with tick:=t} (w.setCell ⟨l.bm,9,none⟩ (.int .i64 t)):=by
 obtain ⟨F,⟨k1,k2,k3,k4,k5,k6,k7,k8⟩,yY,fG⟩:=h.open_ .head trivial;have hm:=dP w l.bm 9 (.int .i64 t);have hx:(w.setCell ⟨l.bm,9,none⟩ (.int .i64 t)).heap[l.bm]?=some (.cells (QQ l t) 163 (0,0)):=by rw [aU k1];rfl
 refine fG _ _ (fun k=>k=l.bm\/ae l.ap=some k\/ae l.aq=some k) (hm.mono (fun k _ e=>by rw [e];exact k6)) ⟨hx,k2.mod hm (fun k hk e=>k4 (by rw [<-e];exact hk)),k3.mod hm (fun k hk e=>k5 (by rw [<-e];exact hk)),k4,k5,.inl rfl,fun k hk=> .inr (.inl hk),fun k hk=> .inr (.inr hk)⟩ ?_ ?_ (fun y hy=>agr_tick hy)
 ·rintro k (rfl|hk|hk)
  ·exact .inl k6
  ·exact .inl (k7 k hk)
  ·exact .inl (k8 k hk)
 ·rintro k (rfl|hk|hk)
  ·exact (aab.1 hx).1
  ·exact aam (k2.lt k hk) hm.size
  ·exact aam (k3.lt k hk) hm.size
theorem TM{c:ak}(hc:dK c)(m:MS):pQ c m<c.labels.length/\c.table.getD (m.tick.toNat% c.table.length) 0=(pQ c m:Int):=by
 have h1:=hc.t1;have:=hc.qh (m.tick.toNat% c.table.length) (Nat.mod_lt _ (by omega));unfold pQ;omega
theorem modT_modT{m:MS}{i:Nat}{f g:fg->fg}(hi:i<m.pt.length):(m.dO i f).dO i g=m.dO i (fun x=>g (f x)):=by
 have h1:=FK (h:=f) hi;unfold MS.dO at*
 simp only [h1,List.set_set]
theorem U7{m:MS}{i:Nat}{f:fg->fg}(hi:i<m.pt.length)(hf:f (aM m i)=aM m i):m.dO i f=m:=by
 unfold MS.dO;rw [hf];have:m.pt.set i (aM m i)=m.pt:=by
  unfold aM;rw [aac,aad hi];simp
 rw [this]
end
theorem aG.OM{c:ak}:∀(L:List Nat) {m:MS},aG c m->(∀q∈L,q<c.procs.length)->aG c (lF m L)
 |[],_,h,_=>h
 |q::r,m,h,hq=>by
  have CT:=hq q aaA;have ht:=h.vG q CT;have h0:=h.t0
  have h1:aG c (m.bM q (Ap m.tick)):=h.bM CT (by
   rw [<-Nt];exact h.ls CT) (by
   rw [<-Nt];unfold rY wj;simp only
   split<;>split<;>omega)
  exact aG.OM r h1 (fun x hx=>hq x (aaw _ hx))
def Vz(c:ak)(i f n:Nat)(m:MS):Option Nat->MS
 |none=>m
 |some k=>pU c i f (qH c (m.dO i fun t=>{t with cur:=(k+1)% n}) ((aQ c i).getD k 0))
theorem TN(c:ak)(i f:Nat)(m:MS):pU c i (f+1) m=Vz c i f (aQ c i).length m (nB m (aQ c i) (aM m i).cur 0 (aQ c i).length):=by
 rw [pU]
 cases nB m (aQ c i) (aM m i).cur 0 (aQ c i).length<;>rfl
variable{m:MS}{l:List Nat}{cur j f:Nat}
theorem next_found(h:(aB m (l.getD ((cur+j)% l.length) 0)).st=0):nB m l cur j (f+1)=some ((cur+j)% l.length):=by
 unfold nB;rw [aah h]
theorem next_on(h:(aB m (l.getD ((cur+j)% l.length) 0)).st≠0):nB m l cur j (f+1)=nB m l cur (j+1) f:=by
 rw [nB,aaf h]
section
variable{w w':World} {l:Lay} {m:MS} {U:Nat->Prop} {p q i j:Nat}
theorem tick_m(h:Mk w l U m)(hs:aG l.c m)(hc:dK l.c)(ht:m.tick<=6917529027641081856):Calls prog 107 #[.pointer (some ⟨l.bm,0,none⟩)] w fun e w'=>e=.returned (.int .i64 (pQ l.c m:Int))/\dm w l U (rX l.c m) w':=by
 have QZ:=hs.t0;obtain ⟨i,hi⟩:=Haa (pQ l.c m);obtain ⟨bP,oW⟩:=TM hc m;have Kq:i<l.c.labels.length:=by rw [<-hi.out];exact bP
 have hil2:(i:Int)<(l.c.labels.length:Int):=by omega
 rw [hi.out]at oW⊢;have em:rX l.c m={pU l.c i l.c.fuel.toNat (lF m (aQ l.c i))with tick:=(pU l.c i l.c.fuel.toNat (lF m (aQ l.c i))).tick+1}:=by unfold rX;simp only [hi.out]
 rw [em];obtain ⟨m2,m5,m7,m8,m9,m10,m11,mf⟩:=h.sU;obtain ⟨gp,ag,cg⟩:=h.UW Kq;rw [ag]at m10;have how:∀d,Calls prog 126 #[.pointer (some ⟨l.bs,0,none⟩),.int .i64 m.tick] (w.drewN d) fun e w'=>e=.returned (.int .i64 (i:Int))/\∃k,w'=(w.drewN d).drewN k:=fun d=>by
  obtain ⟨a,cap,h1,h2⟩:=(h.below (ck w d)).slt;rw [<-oW];exact owner_any h1 h2 (by have:=hc.t1;omega) hc.t64 QZ
 have HW:Hid (∀d,Calls prog 127 #[.pointer (some ⟨l.bm,0,none⟩),.pointer (some ⟨l.bp i,0,none⟩)] (w.drewN d) fun e w'=>e=.returned (.tuple #[])/\dm w l U (lF m (aQ l.c i)) w'):=hd (fun d=>(wake_m (h.below (ck w d)) hs hc Kq).mono (fun e w1 ho=>⟨ho.1,dm.ahead (ck w d) ho.2⟩));have aY:∀q∈aQ l.c i,q<l.c.procs.length:=fun q hq=>(kG.1 hq).1
 have uC:Hid (aG l.c (lF m (aQ l.c i))):=hd (aG.OM _ hs aY);have Lr:Hid ((lF m (aQ l.c i)).tick=m.tick):=hd (JR (aQ l.c i) (p:=0) (MZ l.c i) (fun q hq=>by rw [hs.nq];exact aY q hq)).1;obtain ⟨m0,ud⟩:=Haa (lF m (aQ l.c i));obtain ⟨Fu,Ls⟩:∃f:Nat,l.c.fuel=(f:Int):=⟨l.c.fuel.toNat,by have:=hc.f1;omega⟩;have hF256:Fu<=256:=by have:=hc.f256;omega
 rw [Ls,aa7];replace Ls:=hd Ls;rw [ud.out]at HW uC Lr⊢;obtain ⟨S,hS⟩:=Haa (pU l.c i Fu m0);rw [hS.out];obtain ⟨T,hT⟩:=Haa m.tick;rw [hT.out]at ht QZ m9 how Lr;have HC:=hd hc;have vI:=hd Kq;obtain ⟨n,hn⟩:=Haa ((aQ l.c i).length);have hn32:n<=32:=by have:=JP l.c i;have:=hn.out;have:=hc.k_;omega
 have aJ:Hid (S.tick=T->∀(wr:World) (U1:Nat->Prop),To w U wr U1->Mk wr l U1 S->∃U2,wr.cell? ⟨l.bm,9,none⟩=some (.int .i64 T)/\wr.frozen? ⟨l.bm,9,none⟩=false/\(wr.setCell ⟨l.bm,9,none⟩ (.int .i64 (T+1))).cell? ⟨l.bp i,0,none⟩=some (.int .i64 (i:Int))/\dm w l U {S with tick:=S.tick+1} (wr.setCell ⟨l.bm,9,none⟩ (.int .i64 (T+1)))/\U2=U1):=hd (fun Y5 wr U1 t1 k1=>by
  have e1:=k1.sU;obtain ⟨U2,t2,k2⟩:=(k1.setTick (T+1)).get;refine ⟨U1,by rw [<-Y5];exact e1.2.2.2.2.1,e1.2.2.2.2.2.2.2 9,(k2.vH vI.out).1, ?_,rfl⟩;rw [Y5]
  exact (t1.trans t2).mk k2)
 clear h hs hc bP Kq oW em aY ud ag hi hT;go_enter func107,ntmps107;go_wp2_with fail;go_step3;go_upto_region 1 with fail;go_quiet (first|(go_at_call 126;exact Calls.quiet_of (how _)))
 have aR:=HW.out nq;go_wp2_with (go_at_call 127;refine aR.mono ?_;rintro e w1 ⟨rfl,ho⟩;clear aR);go_step3;obtain ⟨U1,t1,k1⟩:=ho.get;have z2:=k1.sU.1;rw [Ls.out]at z2;have aX:Hid (∃mc U1,To w U w1 U1/\Mk w1 l U1 mc/\aG l.c mc/\mc.tick=T/\pU l.c i Fu mc=S):=hd ⟨m0,U1,t1,k1,uC.out,Lr.out,hS.out⟩;clear m2 m5 m7 m8 m9 m10 m11 mf cg how HW ho t1 k1 uC Lr hS;go_wp2_with fail;go_loopg [28] Fu (fun k v28 wr=>∃f:Nat,v28=.int .i64 (f:Int)/\f+k=Fu/\Hid (∃mc U1,To w U wr U1/\Mk wr l U1 mc/\aG l.c mc/\mc.tick=T/\pU l.c i k mc=S))
 case atStart=>exact ⟨0,rfl,by omega,aX⟩
 case round=>
  obtain ⟨f,rfl,hfk,HH⟩:=hrel;clear aX z2;obtain ⟨mc,U1,t1,k1,CP,Da,hsl⟩:=HH.out;clear HH;by_cases af:f<Fu
  ·have fI:(f:Int)<(Fu:Int):=by omega
   obtain ⟨K,rfl⟩:∃K,gk=K+1:=⟨gk-1,by omega⟩;have jx:i<mc.pt.length:=by rw [CP.np];exact vI.out
   obtain ⟨cu,Lt⟩:=Haa ((aM mc i).cur);have Pz:cu% n=cu:=by
    have:=CP.cur i vI.out;rw [Lt.out,hn.out]at this;rcases this with h|h
    ·rw [h];exact Nat.zero_mod n
    ·exact Nat.mod_eq_of_lt h
   have hid:mc.dO i (fun t=>{t with cur:=(cu+0)% n})=mc:=U7 jx (by rw [aa8,Pz,<-Lt.out]);have n1:=(k1.vH vI.out).2.1;rw [hn.out]at n1;obtain ⟨R,hR⟩:=Haa (nB mc (aQ l.c i) cu 0 n);have jO:Hid (∃U1,To w U wr U1/\Mk wr l U1 (mc.dO i fun t=>{t with cur:=(cu+0)% n})/\nB mc (aQ l.c i) cu 0 (n-0)=R):=hd ⟨U1,t1,by rw [hid];exact k1,hR.out⟩;have sZ:Hid (Vz l.c i K n mc R=S):=hd (by rw [TN,Lt.out,hn.out,hR.out]at hsl;exact hsl);have EP:=hd CP;have Y6:=hd Da;have ze:=hd jx;have CR:=hd Pz;obtain ⟨wo,K8⟩:∃W,W=wr:=⟨_,rfl⟩;clear t1 k1 hsl hid hR CP Da jx Pz;go_wp2_with fail;go_loopg [35] n (fun k v35 wr=>∃j:Nat,v35=.int .i64 (j:Int)/\j+k=n/\Hid (∃U1,To w U wr U1/\Mk wr l U1 (mc.dO i fun t=>{t with cur:=(cu+j)% n})/\nB mc (aQ l.c i) cu j (n-j)=R))
   case atStart=>exact ⟨0,rfl,by omega,jO⟩
   case round=>
    obtain ⟨j,rfl,ug,HH⟩:=hrel;clear jO n1;obtain ⟨U1,t1,k1,gJ⟩:=HH.out;clear HH;by_cases hj:j<n
    ·have fV:(j:Int)<(n:Int):=by omega
     have vl:(cu+j)% n<n:=Nat.mod_lt _ (by omega);have Y7:aG l.c (mc.dO i fun t=>{t with cur:=(cu+j)% n}):=EP.out.Pw vI.out (fun _=>rfl) (fun _=>rfl) (.inr (by rw [hn.out];exact vl)) (EP.out.log i vI.out) (EP.out.uB i vI.out);have Co:=next_m k1 Y7 HC.out vI.out hn (hd (by rw [FK ze.out])) vl;have oU:((cu+j)% n+1)% n=(cu+(j+1))% n:=by rw [Nat.mod_add_mod,abw]
     rw [oU,modT_modT ze.out]at Co;have De:(aQ l.c i).getD ((cu+j)% n) 0∈aQ l.c i:=Oj (by rw [hn.out];exact vl);have Q3:n-j=(n-(j+1))+1:=by omega
     rw [Q3]at gJ;have Ik:=@next_found mc (aQ l.c i) cu j (n-(j+1));have qg:=@next_on mc (aQ l.c i) cu j (n-(j+1));rw [hn.out]at Ik qg;have Q4:Hid (aG l.c (mc.dO i fun t=>{t with cur:=(cu+(j+1))% n})):=hd (EP.out.Pw vI.out (fun _=>rfl) (fun _=>rfl) (.inr (by rw [hn.out];exact Nat.mod_lt _ (by omega))) (EP.out.log i vI.out) (EP.out.uB i vI.out));obtain ⟨q,hq⟩:=Haa ((aQ l.c i).getD ((cu+j)% n) 0);rw [hq.out]at Co De Ik qg;have kz:=(kG.1 De).1;obtain ⟨mj,Il⟩:=Haa (mc.dO i fun t=>{t with cur:=(cu+(j+1))% n});have Lu:aB mj q=aB mc q:=by rw [<-Il.out];rfl
     have Lv:mj.tick=T:=by rw [<-Il.out];exact Y6.out
     rw [Il.out]at Co Q4;clear k1 Y7;by_cases Ee:(aB mc q).st=0
     ·have hR:R=some ((cu+j)% n):=by rw [<-gJ];exact Ik Ee
      have HSL2:Hid (pU l.c i K (qH l.c mj q)=S):=hd (by
       have h2:=sZ.out;rw [hR]at h2;have h3:pU l.c i K (qH l.c (mc.dO i fun t=>{t with cur:=((cu+j)% n+1)% n}) ((aQ l.c i).getD ((cu+j)% n) 0))=S:=h2;rw [oU,Il.out,hq.out]at h3
       exact h3)
      have fP:Hid (aG l.c (qH l.c mj q)/\(qH l.c mj q).tick=T):=hd ⟨Q4.out.Wg HC.out kz,by rw [TK];exact Lv⟩;have Lw:=hd kz;have HTJ:=hd Lv;have Dg:=hd Lu;have Im:=hd t1;have HZ:=hd Ee;clear hR gJ Ik qg De oU vl t1 kz Lv Lu Ee Q3 sZ;go_upto_region 8 with(go_at_call 128;refine Co.mono ?_;rintro e w2 ⟨rfl,ho⟩;clear Co);obtain ⟨U2,t2,k2⟩:=ho.get;have x3:=(k2.dS Lw.out).c3;rw [Dg.out,HZ.out]at x3;have Xi:=step_m k2 Q4.out HC.out Lw.out (by rw [HTJ.out];exact ht);replace Im:=hd (Im.out.trans t2);clear ho k2 t2;go_wp2_with (go_at_call 129;refine Xi.mono ?_;rintro e w3 ⟨rfl,ho⟩;clear Xi);go_roundg K
      case rel=>
       obtain ⟨U3,t3,k3⟩:=ho.get;exact ⟨f+1,by go_num,by omega,hd ⟨qH l.c mj q,U3,Im.out.trans t3,k3,fP.out.1,fP.out.2,HSL2.out⟩⟩
      case measure=>omega
     ·have hnx2:Hid (nB mc (aQ l.c i) cu (j+1) (n-(j+1))=R):=hd (by rw [<-qg Ee];exact gJ);have e0:((aB mc q).st==0)=false:=by simpa using Ee
      have Lw:=hd kz;have Dg:=hd Lu;have Im:=hd t1;clear gJ Ik qg De oU vl t1 kz Lv Lu Ee Q3;go_upto_region 8 with(go_at_call 128;refine Co.mono ?_;rintro e w2 ⟨rfl,ho⟩;clear Co);obtain ⟨U2,t2,k2⟩:=ho.get;have x3:=(k2.dS Lw.out).c3;rw [Dg.out]at x3;have HN:Hid (∃U1,To w U w2 U1/\Mk w2 l U1 (mc.dO i fun t=>{t with cur:=(cu+(j+1))% n})/\nB mc (aQ l.c i) cu (j+1) (n-(j+1))=R):=hd ⟨U2,Im.out.trans t2,by rw [Il.out];exact k2,hnx2.out⟩;clear ho k2 t2;go_wp2_with fail;go_roundg (gk-1)
      case rel=>exact ⟨j+1,by go_num,by omega,HN⟩
      case measure=>omega
    ·obtain rfl:j=n:=by omega
     have hR:R=none:=by rw [<-gJ,Nat.sub_self];rfl
     have hmS:mc=S:=by
      have h2:=sZ.out;rw [hR]at h2;exact h2
     have hid:mc.dO i (fun t=>{t with cur:=(cu+j)% j})=mc:=U7 ze.out (by rw [Nat.add_mod_right,CR.out,<-Lt.out]);rw [hid]at k1;obtain rfl:mc=S:=hmS;obtain ⟨U2,a1,a2,a3,a4,-⟩:=aJ.out Y6.out wr U1 t1 k1;replace a4:=hd a4;clear k1 hR hid gJ aJ t1 sZ;go_wp2_with fail;rw [Exit.noGoto_ret];go_ret;exact ⟨rfl,a4.out⟩
  ·obtain rfl:gk=0:=by omega
   obtain rfl:mc=S:=hsl;obtain ⟨U2,a1,a2,a3,a4,-⟩:=aJ.out Da wr U1 t1 k1;replace a4:=hd a4;clear k1 CP aJ t1;go_wp2_with fail;rw [Exit.noGoto_ret];go_ret;exact ⟨rfl,a4.out⟩
end
theorem Uq{m:MS}{l:List Nat}{cur:Nat}(hl:0<l.length):∀(f k:Nat) {i:Nat},nB m l cur k f=some i->i<l.length
 |0,_,_,h=>by cases h
 |f+1,k,i,h=>by
  rw [nB]at h;split at h
  ·cases h
   exact Nat.mod_lt _ hl
  ·exact Uq hl f (k+1) h
theorem aG.slots{c:ak}{i:Nat}(hc:dK c)(hi:i<c.labels.length):∀(f:Nat) {m:MS},aG c m->aG c (pU c i f m)
 |0,_,h=>h
 |f+1,m,h=>by
  rw [TN]
  cases hn:nB m (aQ c i) (aM m i).cur 0 (aQ c i).length with
  |none=>exact h
  |some k=>
   have hl:0<(aQ c i).length:=by
    rcases Nat.eq_zero_or_pos (aQ c i).length with e|e
    ·rw [e]at hn
     cases hn
    ·exact e
   have hk:=Uq hl _ _ hn;have h1:aG c (m.dO i fun t=>{t with cur:=(k+1)% (aQ c i).length}):=h.Pw hi (fun _=>rfl) (fun _=>rfl) (.inr (Nat.mod_lt _ hl)) (h.log i hi) (h.uB i hi);exact aG.slots hc hi f (h1.Wg hc (kG.1 (Oj hk)).1)
theorem aG.next{c:ak}{m:MS}(h1:aG c m):aG c {m with tick:=m.tick+1}:=by
 have h0:=h1.t0;refine ⟨h1.np,h1.nq,by simp only;omega,h1.lk,h1.own,h1.rG,h1.cur,h1.log,h1.uB,h1.ln,h1.room,h1.qW,fun p hp=> ?_⟩;obtain ⟨⟨a1,a2⟩,a3,a4⟩:=h1.vG p hp;exact ⟨⟨a1,Int.le_trans a2 (by simp only;omega)⟩,a3,Int.le_trans a4 (by simp only;omega)⟩
theorem aG.ticks{c:ak}{m:MS}(h:aG c m)(hc:dK c):aG c (rX c m):=
 (aG.slots hc (TM hc m).1 c.fuel.toNat (h.OM (aQ c (pQ c m)) (fun _ hq=>(kG.1 hq).1))).next
end Go.Proofs.YthopnfbjiifhhaaGreatDoor
