/- Sends. -/
import Derived.Test.YthopnfbjiifhhaaGreatDoorGMa
set_option maxHeartbeats 4000000
set_option maxRecDepth 100000
namespace Go.Proofs.YthopnfbjiifhhaaGreatDoor
open Go.RowKit Go.Proofs.Tryz
theorem DU{w w1:World}{U U1:Nat->Prop}(h:To w U w1 U1):To w U w1.drew U1:=h.au (fu w1)
theorem Mk.drew{w:World}{l:Lay}{U:Nat->Prop}{m:MS}(h:Mk w l U m):Mk w.drew l U m:=h.below (fu w)
section
variable{w w':World} {l:Lay} {m:MS} {U:Nat->Prop} {p q i:Nat}
theorem Mk.setFired(h:Mk w l U m)(hs:aG l.c m)(hp:p<l.c.procs.length)(s:Bool):dm w l U (m.bM p fun x=>{x with fired:=s}) (w.setCell ⟨l.bq p,13,none⟩ (.bool s)):=
 h.DT hs hp (fun _=>rfl) (fun _=>rfl) (fun _=>rfl) (fun _=>rfl) (dP _ _ _ _) (UY (h.zP hp) s)
end
section
variable{w w':World} {l:Lay} {m:MS} {U:Nat->Prop} {p q i j:Nat}
theorem Mk.putPart(h:Mk w l U m)(hs:aG l.c m)(hi:i<l.c.labels.length){f:fg->fg}(h1:∀x,(f x).os=x.os)(h2:∀x,(f x).qs=x.qs)(h3:(f (aM m i)).log=(aM m i).log)
 (hm:Mod (fun k=>k=l.bp i) w w')(hh:∀la lc,w.heap[l.bp i]?=some (.cells (rH l i (aM m i) la lc) 178 (0,0))->w'.heap[l.bp i]?=some (.cells (rH l i (f (aM m i)) la lc) 178 (0,0))):dm w l U (m.dO i f) w':=by
 have gj:i<m.pt.length:=by rw [hs.np];exact hi
 obtain ⟨F,⟨la,lc,k1,k2,k3,k4,k5,k6,k7,k8,k9⟩,_,fG⟩:=h.open_ (.part i) hi;have hx:=hh la lc k1;refine fG w' _ (fun k=>k=l.bp i\/ae (l.ar i)=some k\/ae la=some k) (hm.mono (fun k _ e=>by rw [e];exact k7)) ⟨la,lc,by rw [FK gj];exact hx,k2.mod hm (fun k hk e=>k4 (by rw [<-e];exact hk)),by rw [FK gj,h3];exact k3.mod hm (fun k hk e=>k5 (by rw [<-e];exact hk)),k4,k5,k6,.inl rfl,fun k hk=> .inr (.inl hk),fun k hk=> .inr (.inr hk)⟩ ?_ ?_ (fun y hy=>agr_part h1 h2 gj hy)
 ·rintro k (rfl|hk|hk)
  ·exact .inl k7
  ·exact .inl (k8 k hk)
  ·exact .inl (k9 k hk)
 ·rintro k (rfl|hk|hk)
  ·exact (aab.1 hx).1
  ·exact aam (k2.lt k hk) hm.size
  ·exact aam (k3.lt k hk) hm.size
theorem Mk.setCur(h:Mk w l U m)(hs:aG l.c m)(hi:i<l.c.labels.length)(v:Nat):dm w l U (m.dO i fun x=>{x with cur:=v}) (w.setCell ⟨l.bp i,2,none⟩ (.int .i64 (v:Int))):=
 h.putPart hs hi (fun _=>rfl) (fun _=>rfl) rfl (dP _ _ _ _) (fun la lc e=>by rw [aU e];rfl)
end
section
variable{w w':World} {l:Lay} {m:MS} {U:Nat->Prop} {p q i j:Nat}
end
theorem fitL{c:ak}(hc:dK c){p:Nat}(hp:p<c.procs.length):aV.ic (p:Int):=by
 have:=hc.k_;constructor<;>omega
section
variable{w w':World} {l:Lay} {m:MS} {U:Nat->Prop} {p q i j:Nat}
theorem aG.given{c:ak}{m:MS}(h:aG c m){x:Int}(hx:x=-1\/jg c x):aG c (qG m x):=by
 unfold qG;split
 ·exact h
 ·next hn=>
  rcases hx with hx|hx
  ·exact absurd hx hn
  ·exact h.goOn (OL hx)
theorem given_m(h:Mk w l U m)(hs:aG l.c m){x:Int}(hx:x=-1\/jg l.c x):Calls prog 166 #[.pointer (some ⟨l.bm,0,none⟩),.int .i64 x] w fun e w'=>e=.returned (.tuple #[])/\dm w l U (qG m x) w':=by
 by_cases e:x=-1
 ·subst e;have em:qG m (-1)=m:=by unfold qG;rw [aah rfl]
  rw [em];have HO:=hd (h.out (aak _ _));clear h hs hx em;go_enter func166,ntmps166
  go_wp2
  go_end0;exact ⟨rfl,HO.out⟩
 ·have xh:jg l.c x:=by rcases hx with h|h;exact absurd h e;exact h
  have em:qG m x=xT m x.toNat:=by unfold qG;rw [aaf e]
  rw [em];have af:=OL xh;obtain ⟨n,hn⟩:∃n:Nat,x=(n:Int):=⟨x.toNat,by have:=xh.1;omega⟩;subst hn;rw [aa7]at af⊢;have hno':(n:Int)<(l.c.procs.length:Int):=by omega
  obtain ⟨m2,m5,m7,m8,m9,m10,m11,mf⟩:=h.sU;obtain ⟨gp,ag,cg⟩:=h.Ga af;rw [ag]at m11;have fG:=Um h hs af;clear h hs hx em xh af m2 m5 m7 m8 m9 m10 mf;go_enter func166,ntmps166;go_wp2_with (go_at_call 150;refine fG.mono ?_;rintro e w1 ⟨rfl,ho⟩;clear fG);go_end0;exact ⟨rfl,ho⟩
end
theorem Vx:∀(L:List aZ.Th),L.Pairwise (fun a b=>a.2≠b.2)->(L.map (·.2)).Nodup:=fun _ h=>List.pairwise_map.2 h
theorem UZ{c:ak}{m:MS}{i:Nat}{L:List aZ.Th}(h:kC c m i L)(hg:aZ.gA L)(hc:dK c):L.length<=64:=by
 have h1:=BP (2*c.procs.length) (L.map (·.2)) (Vx L hg.qZ) (fun x hx=>by
  obtain ⟨t,ht,rfl⟩:=abm.1 hx;obtain ⟨p,hp,⟨rfl,_⟩|⟨rfl,_⟩⟩:=(h t).1 ht
  ·have:=(kG.1 hp).1;simp only
   omega
  ·have:=(kG.1 hp).1;simp only
   omega)
 have:=hc.k_;simp at h1;omega
section
variable{c:ak} {m:MS} {i p:Nat} {L:List aZ.Th}
theorem wok_noTimer(h:kC c m i L)(hm:p<m.pr.length):kC c (m.bM p fun x=>{x with timer:=0}) i (aZ.jq (2*(p:Int)) L):=fun t=>by
 rw [aZ.pK];constructor
 ·rintro ⟨h1,h2⟩;obtain ⟨q,hq,⟨rfl,h3⟩|⟨rfl,h3⟩⟩:=(h t).1 h1
  ·have QR:q≠p:=fun e=>h2 (by simp only;omega)
   exact ⟨q,hq,.inl (by rw [BG QR];exact ⟨rfl,h3⟩)⟩
  ·refine ⟨q,hq,.inr ?_⟩;rw [pJ hm];split
   ·next e=>subst e;exact ⟨rfl,h3⟩
   ·exact ⟨rfl,h3⟩
 ·rintro ⟨q,hq,⟨rfl,h3⟩|⟨rfl,h3⟩⟩
  ·by_cases e:q=p
   ·subst e;rw [DL hm]at h3;exact absurd h3 (Int.lt_irrefl 0)
   ·rw [BG e]at h3⊢;exact ⟨(h _).2 ⟨q,hq,.inl ⟨rfl,h3⟩⟩,by simp only;omega⟩
  ·refine ⟨(h _).2 ⟨q,hq,.inr ?_⟩,by simp only;omega⟩;rw [pJ hm]at h3⊢;by_cases e:q=p
   ·rw [aah e]at h3⊢;subst e;exact ⟨rfl,h3⟩
   ·rw [aaf e]at h3⊢;exact ⟨rfl,h3⟩
theorem wok_noWake(h:kC c m i L)(hm:p<m.pr.length):kC c (m.bM p fun x=>{x with bE:=0}) i (aZ.jq (2*(p:Int)+1) L):=fun t=>by
 rw [aZ.pK];constructor
 ·rintro ⟨h1,h2⟩;obtain ⟨q,hq,⟨rfl,h3⟩|⟨rfl,h3⟩⟩:=(h t).1 h1
  ·refine ⟨q,hq,.inl ?_⟩;rw [pJ hm];split
   ·next e=>subst e;exact ⟨rfl,h3⟩
   ·exact ⟨rfl,h3⟩
  ·have QR:q≠p:=fun e=>h2 (by simp only;omega)
   exact ⟨q,hq,.inr (by rw [BG QR];exact ⟨rfl,h3⟩)⟩
 ·rintro ⟨q,hq,⟨rfl,h3⟩|⟨rfl,h3⟩⟩
  ·refine ⟨(h _).2 ⟨q,hq,.inl ?_⟩,by simp only;omega⟩;rw [pJ hm]at h3⊢;by_cases e:q=p
   ·rw [aah e]at h3⊢;subst e;exact ⟨rfl,h3⟩
   ·rw [aaf e]at h3⊢;exact ⟨rfl,h3⟩
  ·by_cases e:q=p
   ·subst e;rw [DL hm]at h3;exact absurd h3 (Int.lt_irrefl 0)
   ·rw [BG e]at h3⊢;exact ⟨(h _).2 ⟨q,hq,.inr ⟨rfl,h3⟩⟩,by simp only;omega⟩
end
section
variable{w w':World} {l:Lay} {m:MS} {U:Nat->Prop} {p q i j:Nat}
theorem Un(h:Mk w l U m)(hc:dK l.c)(hp:p<l.c.procs.length):Calls prog 120 #[.pointer (some ⟨l.bq p,0,none⟩)] w fun e w'=>e=.returned (.int .i64 (2*(p:Int)))/\w=w':=by
 have c0:=(h.dS hp).c0;have:=hc.k_;go_enter func120,ntmps120
 go_wp2
 go_ret;exact ⟨rfl,rfl⟩
theorem Nq(h:Mk w l U m)(hc:dK l.c)(hp:p<l.c.procs.length):Calls prog 121 #[.pointer (some ⟨l.bq p,0,none⟩)] w fun e w'=>e=.returned (.int .i64 (2*(p:Int)+1))/\w=w':=by
 have c0:=(h.dS hp).c0;have:=hc.k_;go_enter func121,ntmps121
 go_wp2
 go_ret;exact ⟨rfl,rfl⟩
theorem Mk.Vy(h:Mk w l U m)(hs:aG l.c m)(hc:dK l.c)(hp:p<l.c.procs.length)(id:Int)(f:cF->cF)(hid:0<=id/\id<=64)(hf:(∀x,(f x).ss=x.ss)/\(∀x,(f x).lc=x.lc)/\(∀x,(f x).st=x.st)/\(∀x,(f x).core=x.core)/\∀x,(f x).fired=x.fired)
 (hw:∀L,kC l.c m (pa l.c p) L->kC l.c (m.bM p f) (pa l.c p) (aZ.jq id L)):Calls prog 167 #[.pointer (some ⟨l.bw (pa l.c p),0,none⟩),.int .i64 id] w fun e w'=>(∃b,e=.returned (.bool b))/\dm w l U (m.bM p f) w':=by
 have pg:p<m.pr.length:=by rw [hs.nq];exact hp
 obtain ⟨F,L,h1,h2,h3,h4⟩:=h.dU (hc.D4 hp);have hl:=UZ h2 h1.good hc;refine (aZ.clear_any h1 (id:=id) ⟨by omega,by omega⟩ (by omega)).mono ?_;rintro e w1 ⟨rfl,k1,F',k2,k3⟩;obtain ⟨f1,f2,f3,f4,f5⟩:=hf;exact ⟨⟨_,rfl⟩,dm.of h3 k3 (h4 w1 _ F' _ k1 k2 (hw L h2) k3 (fun y hy=>agr_whl f1 f2 f3 f4 f5 pg hy))⟩
end
section
variable{w w':World} {l:Lay} {m:MS} {U:Nat->Prop} {p q i j:Nat}
theorem Mk.rowAt(h:Mk w l U m)(hi:i<l.c.labels.length){k:Nat}(hk:k<(aQ l.c i).length):∃g,l.ar i=some ⟨g,0,none⟩/\w.cell? ⟨g,k,none⟩=some (.pointer (some ⟨l.bq ((aQ l.c i).getD k 0),0,none⟩)):=by
 obtain ⟨la,lc,_,k2,_⟩:=h.partAt hi;obtain ⟨g,e,hcell⟩:=k2.cell k (by omega);refine ⟨g,e, ?_⟩;rw [hcell,J2 _ k (by simpa using hk),aac,aaK,aad hk,aac,aad hk];rfl
theorem next_m(h:Mk w l U m)(hs:aG l.c m)(hc:dK l.c)(hi:i<l.c.labels.length){k n:Nat}(hn:Hid ((aQ l.c i).length=n))(nG:Hid ((aM m i).cur=k))(hk:k<n):Calls prog 128 #[.pointer (some ⟨l.bp i,0,none⟩)] w fun e w'=>e=.returned (.pointer (some ⟨l.bq ((aQ l.c i).getD k 0),0,none⟩))/\dm w l U (m.dO i fun t=>{t with cur:=(k+1)% n}) w':=by
 have hl:=JP l.c i;have h32:=hc.k_;rw [hn.out]at hl;obtain ⟨-,n1,n2,-,-,-,-,nf⟩:=h.vH hi;rw [nG.out]at n2;rw [hn.out]at n1;obtain ⟨g,ag,cg⟩:=h.rowAt hi (k:=k) (by rw [hn.out];exact hk);rw [ag]at n1;have jk:(k:Int)<(n:Int):=by omega
 have bC:(n:Int)≠0:=by omega
 have Px:n≠0:=by omega
 obtain ⟨R,hR⟩:∃R:Nat,(k+1)% n=R:=⟨_,rfl⟩;have Y0:R<n:=by rw [<-hR];exact Nat.mod_lt _ (by omega)
 have Ko:((k:Int)+1).tmod (n:Int)=(R:Int):=by rw [<-hR,show(k:Int)+1=((k+1:Nat):Int) by omega];exact (Int.ofNat_tmod _ _).symm
 have HE:Hid (∀d,dm w l U (m.dO i fun t=>{t with cur:=R}) ((w.drewN d).setCell ⟨l.bp i,2,none⟩ (.int .i64 (R:Int)))):=hd (fun d=>dm.ahead (ck w d) ((h.below (ck w d)).setCur hs hi R));rw [hR];generalize (m.dO i fun t=>{t with cur:=R})=M at*
 generalize l.bq ((aQ l.c i).getD k 0)=bq at*
 have w1:IntKind.i64.wrap ((k:Int)+1)=(k:Int)+1:=by rw [abG];omega
 clear h hs hc hi hn nG hR ag;go_enter func128,ntmps128;go_upto_region 1 with fail;go_quiet (fail)
 go_upto_region 2 with fail;go_region_law (fail)
 all_goals (
  go_wp2_with fail;go_ret
  exact ⟨rfl,HE.out _⟩)
def xU(l:Lay)(m:MS)(p:Int):Value:=if eG l.c m p=0 then .pointer (some ⟨l.bq p.toNat,0,none⟩)else .pointer none
theorem Uo(h:Mk w l U m)(p:Int):Calls prog 130 #[.pointer (some ⟨l.bm,0,none⟩),.int .i64 p] w fun e w'=>e=.returned (.tuple #[xU l m p,.int .i64 (eG l.c m p)])/\w=w':=by
 have m11:=h.sU.2.2.2.2.2.2.1;by_cases e1:p<0\/(l.c.procs.length:Int)<=p
 ·have ee:eG l.c m p=17:=by unfold eG;rw [aah e1]
  have ev:xU l m p=.pointer none:=by unfold xU;rw [ee];rfl
  rw [ee,ev];clear h ee ev;by_cases e2:p<0
  ·go_enter func130,ntmps130
   go_wp2
   go_ret2;exact ⟨rfl,rfl⟩
  ·have e2':decide (p<0)=false:=by simpa using e2
   have e3:(l.c.procs.length:Int)<=p:=by omega
   clear e1 e2;go_enter func130,ntmps130
   go_wp2
   go_ret2;exact ⟨rfl,rfl⟩
 ·obtain ⟨q,rfl⟩:∃q:Nat,p=(q:Int):=⟨p.toNat,by omega⟩;have hq:q<l.c.procs.length:=by omega
  have hq':(q:Int)<(l.c.procs.length:Int):=by omega
  obtain ⟨g,ag,cg⟩:=h.Ga hq;rw [ag]at m11;have c3:=(h.dS hq).c3;have qw:=ended_any (aB m q).st w;by_cases e2:ended (aB m q).st=true
  ·have ee:eG l.c m q=18:=by unfold eG;rw [aaf e1,aa7,aah e2]
   have ev:xU l m q=.pointer none:=by unfold xU;rw [ee];rfl
   rw [ee,ev];rw [e2]at qw;clear h ee ev e1 e2;go_enter func130,ntmps130;go_wp2_with (go_at_call 160;refine qw.mono ?_;rintro e w1 ⟨rfl,rfl⟩);go_ret2;exact ⟨rfl,rfl⟩
  ·have ee:eG l.c m q=0:=by unfold eG;rw [aaf e1,aa7,aaf e2]
   have ev:xU l m q=.pointer (some ⟨l.bq q,0,none⟩):=by unfold xU;rw [ee,aah rfl,aa7]
   rw [ee,ev];rw [show ended (aB m q).st=false by simpa using e2]at qw;clear h ee ev e1 e2;go_enter func130,ntmps130;go_wp2_with (go_at_call 160;refine qw.mono ?_;rintro e w1 ⟨rfl,rfl⟩);go_ret2;exact ⟨rfl,rfl⟩
theorem inject_no(h:Mk w l U m)(p v:Int)(e1:eG l.c m p≠0):Calls prog 108 #[.pointer (some ⟨l.bm,0,none⟩),.int .i64 p,.int .i64 v] w fun e w'=>e=.returned (.int .i64 (eG l.c m p))/\w=w':=by
 have mK:=Uo h p;have YN:(eG l.c m p !=0)=true:=by simpa using e1
 generalize xU l m p=LV at*
 generalize eG l.c m p=E at*
 clear h e1;go_enter func108,ntmps108;go_wp2_with (go_at_call 130;refine mK.mono ?_;rintro e w1 ⟨rfl,rfl⟩;clear mK);go_ret;exact ⟨rfl,rfl⟩
theorem kill_no(h:Mk w l U m)(p:Int)(e1:eG l.c m p≠0):Calls prog 109 #[.pointer (some ⟨l.bm,0,none⟩),.int .i64 p] w fun e w'=>e=.returned (.int .i64 (eG l.c m p))/\w=w':=by
 have mK:=Uo h p;have YN:(eG l.c m p==0)=false:=by simpa using e1
 generalize xU l m p=LV at*
 generalize eG l.c m p=E at*
 clear h e1;go_enter func109,ntmps109;go_wp2_with (go_at_call 130;refine mK.mono ?_;rintro e w1 ⟨rfl,rfl⟩;clear mK);go_ret;exact ⟨rfl,rfl⟩
end
theorem MG:(prog.info? 138).map (fun i=>(i.zero,i.size,i.bytes))=some (some (.agg #[.int .i64 0,.int .i64 0,.int .i64 0]),3,24):=by kernel_rfl
section
variable{w w':World} {l:Lay} {m:MS} {U:Nat->Prop} {p q i j:Nat}
end
end Go.Proofs.YthopnfbjiifhhaaGreatDoor
