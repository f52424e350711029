/- Half of two twins: start. -/
import Derived.Test.YthopnfbjiifhhaaGreatDoorGXs
import Derived.Test.YthopnfbjiifhhaaGreatDoorGXt
set_option maxHeartbeats 4000000
set_option maxRecDepth 100000
namespace Go.Proofs.YthopnfbjiifhhaaGreatDoor
open Go.RowKit Go.Proofs.Tryz
def Kg(w:World)(c:ak)(g:Loc)(sa:Option Addr)(rest:List cK)(e:Ending)(w':World):Prop:=∃(h:HL) (U:Nat->Prop) (sc:Nat),e=.returned (.pointer (some ⟨h.bh,0,none⟩))/\ed w' h U sa sc ⟨firstM c,0,-1,0,rest⟩/\h.c=c/\h.l.c=c/\(∀k,h.fp U k->w.heap.size<=k)/\(∀k,h.K k->w.heap.size<=k\/k=1\/k=0\/sS g k\/ae sa=some k)/\Below w.heap.size w w'
theorem TV(c:ak)(g:Loc)(sa:Option Addr)(sc:Nat)(rest:List cK)(w:World)(hR:fD w c g)(hF:bR w)(hL:eQ w)(jM:Rd w sa (bB rest))(hle:rest.length<=sc)(hg:∀k,sS g k->k<w.heap.size)(zD:∀k,ae sa=some k->k<w.heap.size)
 (hm:(jt c).1=0)(hb:rZ (nE c))(Fl:qI (nE c)=(c,0,0))(sr:∀x∈c.labels,x<18446744073709551616)(hj:∀p,p<c.procs.length->eZ.yH (cd c p)):
 Calls prog 18 #[ct c g,.slice sa rest.length sc] w (Kg w c g sa rest):=by
 have ai:=aA w (.cells (a_ c g) 26);have hx:=aae w (.cells (a_ c g) 26);obtain ⟨W0,aD⟩:=Haa (w.alloc (.cells (a_ c g) 26));rw [aD.out]at ai hx;have KF:=cenc_ok c g W0 (hR.below ai) (bR.mod hF (Mod.aS (fun _=>False) ai) (fun h=>h)) (eQ.mod hL (Mod.aS (fun _=>False) ai) (fun h=>h)) hm;obtain ⟨bx,aT⟩:=Haa w.heap.size;have bu:W0.heap.size=w.heap.size+1:=by rw [<-aD.out];simp
 rw [aT.out]at hx bu;obtain ⟨n,hn⟩:=Haa ((nE c).length)
 have HD:Hid (∀W,Below W0.heap.size W0 W->W.cell? ⟨bx,0,none⟩=some (.slice g.la c.labels.length g.lc)/\W.cell? ⟨bx,1,none⟩=some (.slice g.ta c.table.length g.tc)/\W.cell? ⟨bx,2,none⟩=some (.int .i64 c.fuel)/\W.cell? ⟨bx,3,none⟩=some (.int .i64 c.lane)/\W.cell? ⟨bx,4,none⟩=some (.int .i64 c.aF)/\W.cell? ⟨bx,5,none⟩=some (.int .i64 c.log)/\W.cell? ⟨bx,6,none⟩=some (.slice g.pa c.procs.length g.pc)):=hd (fun W hb=>by
  have hk:=(hb.block bx (by omega)).trans hx
  refine ⟨?_, ?_, ?_, ?_, ?_, ?_, ?_⟩<;>(rw [aaa _ _ _ _ _ _ hk];rfl))
 have Sh:Hid (∀e w1,Gf W0 c e w1->∃a c',e=.returned (.tuple #[.slice a n c',.int .i64 0])/\Hid (Below W0.heap.size W0 w1)/\Calls prog 33 #[.slice a n c'] w1 (Gu w1 c)):=hd (by
  rintro e w1 ⟨a,c',rfl,h2,h3,h4⟩;rw [hn.out]at h2⊢;have aH:=ai.trans (h4.mono ai.size)
  refine ⟨a,c',rfl,hd h4,boot_ok c a n c' (nE c) w1 hn.out h2.rd hb h2.zR (bR.mod hF (Mod.aS (fun _=>False) aH) (fun h=>h)) (eQ.mod hL (Mod.aS (fun _=>False) aH) (fun h=>h)) Fl hm sr hj⟩)
 obtain ⟨Q,hQ⟩:=Haa (Kg w c g sa rest);obtain ⟨R,uF⟩:=Haa rest.length
 have HE:Hid (∀w1 e w2,Below W0.heap.size W0 w1->Gu w1 c e w2->∃br,e=.returned (.tuple #[.pointer (some ⟨br,0,none⟩),.int .i64 0,.int .i64 0])/\Hid (Below W0.heap.size W0 w2)/\Hid (Q (.returned (.pointer (some ⟨w2.heap.size,0,none⟩))) (w2.alloc (.cells #[.slice g.la c.labels.length g.lc,.slice g.ta c.table.length g.tc,.int .i64 c.fuel,.int .i64 c.lane,.int .i64 c.aF,.int .i64 c.log,.slice g.pa c.procs.length g.pc,.pointer (some ⟨br,0,none⟩),.slice sa R sc,.int .i64 0] 73)))):=hd (by
  rintro w1 e w2 aH ⟨br,l,U,rfl,k1,k2,k3,k4,k5,k6⟩;have aI:Below W0.heap.size W0 w2:=aH.trans (k6.mono aH.size);have aj:Below w.heap.size w w2:=ai.trans (aI.mono ai.size);have gi:w.heap.size<=w1.heap.size:=aai ai.size aH.size;refine ⟨br,rfl,hd aI,hd ?_⟩;rw [<-hQ.out];have eH:=aA w2 (.cells #[.slice g.la c.labels.length g.lc,.slice g.ta c.table.length g.tc,.int .i64 c.fuel,.int .i64 c.lane,.int .i64 c.aF,.int .i64 c.log,.slice g.pa c.procs.length g.pc,.pointer (some ⟨br,0,none⟩),.slice sa R sc,.int .i64 0] 73);have Mm:=aj.trans (eH.mono aj.size);have uD:=aae w2 (.cells #[.slice g.la c.labels.length g.lc,.slice g.ta c.table.length g.tc,.int .i64 c.fuel,.int .i64 c.lane,.int .i64 c.aF,.int .i64 c.log,.slice g.pa c.procs.length g.pc,.pointer (some ⟨br,0,none⟩),.slice sa R sc,.int .i64 0] 73);rw [<-uF.out]at uD⊢;rw [<-uF.out]at eH Mm;have cD:=eH.size;have jh:=k1.lt;have hUl:=k1.kk.lt;have Lg:=k1.kk.base.mV;refine ⟨⟨w2.heap.size,br,l,c,g,fun k=>l.K k\/sS g k\/ae sa=some k⟩,U,sc,rfl,⟨uD,k1.below eH,hR.below Mm,jM.below Mm,fun _ k hk=> .inr (.inr hk),hle,fun e=> ?_,fun e=> ?_,fun k hk=> .inl hk,fun k hk=> .inr (.inl hk),fun k hk=> ?_,fun k hk hK=> ?_⟩,rfl,k2,fun k hk=> ?_,fun k hk=> ?_,Mm⟩
  ·have:=hUl _ e;simp only at this;omega
  ·simp only at e;omega
  ·have h1:k<w2.heap.size:=by
    rcases hk with e|e|e
    ·exact Lg k e
    ·exact aam (hg k e) aj.size
    ·exact aam (zD k e) aj.size
   omega
  ·have ko:w.heap.size<=k:=by
    rcases hk with e|e|e
    ·exact aai gi (k3 k e)
    ·simp only at e;rw [e];omega
    ·simp only at e;rw [e];exact aj.size
   rcases hK with e|e|e
   ·rcases hk with e2|e2|e2
    ·obtain ⟨Fs,_,_,_,h4⟩:=k1.kk;exact h4 k e2 e
    ·simp only at e2;rw [e2]at e;exact k1.nk e
    ·simp only at e2;have:=Lg k e;omega
   ·have:=hg k e;omega
   ·have:=zD k e;omega
  ·rcases hk with e|e|e
   ·exact aai gi (k3 k e)
   ·simp only at e;rw [e];omega
   ·simp only at e;rw [e];exact aj.size
  ·rcases hk with e|e|e
   ·rcases k5 k e with e2|e2|e2
    ·exact .inl (aai gi e2)
    ·exact .inr (.inl e2)
    ·exact .inr (.inr (.inl e2))
   ·exact .inr (.inr (.inr (.inl e)))
   ·exact .inr (.inr (.inr (.inr e))))
 obtain ⟨N,hN⟩:∃N:Ending->World->Prop,Hid (Gf W0 c=N):=⟨_,rfl⟩;rw [hN.out]at KF Sh;rw [hQ.out,uF.out];unfold ct a_ at KF⊢;unfold a_ at aD;clear hR hF hL jM hle hg zD hm hb Fl sr hj ai hx bu hQ uF hN hn;go_enter func18,ntmps18;go_upto_region 1 with fail;rw [aD.out,aT.out];clear aD aT;obtain ⟨c0,c1,c2,c3,c4,c5,c6⟩:=HD.out W0 (aak _ _)
 go_upto_region 3 with(first
  |(go_at_call 32;(with_reducible refine KF.mono ?_);rintro e w1 he;obtain ⟨a,c',rfl,aH,GZ⟩:=Sh.out e w1 he;clear he KF Sh c0 c1 c2 c3 c4 c5 c6;have rA:=hd (fun e w2 h=>HE.out w1 e w2 aH.out h);obtain ⟨N,hN⟩:∃N:Ending->World->Prop,Hid (Gu w1 c=N):=⟨_,rfl⟩;rw [hN.out]at GZ rA;clear HE hN)
  |(go_at_call 33;(with_reducible refine GZ.mono ?_);rintro e w2 he;obtain ⟨br,rfl,aI,HQ⟩:=rA.out e w2 he;clear he GZ rA;obtain ⟨c0,c1,c2,c3,c4,c5,c6⟩:=HD.out w2 aI.out))
 go_wp2_with fail;exact HQ.out
theorem Vj(T O:Int)(W:World):(Instr.field 54 (.agg #[.int .i64 T,.int .i64 O]) 0).run prog W=.ok (.int .i64 T) W:=by kernel_rfl
section
variable{w w':World} {h:HL} {U:Nat->Prop} {sa:Option Addr} {sc:Nat} {x:HS}
theorem JU(k:ed w h U sa sc x):Calls prog 22 #[.pointer (some ⟨h.bh,0,none⟩)] w fun e w'=>e=.returned (.agg #[.int .i64 x.T,.int .i64 x.O])/\cU w h U x w':=by
 have ai:=aA w (.cells #[.int .i64 0,.int .i64 0] 54);have hx:=aae w (.cells #[.int .i64 0,.int .i64 0] 54);obtain ⟨W0,aD⟩:=Haa (w.alloc (.cells #[.int .i64 0,.int .i64 0] 54));rw [aD.out]at ai hx;have bu:W0.heap.size=w.heap.size+1:=by rw [<-aD.out];simp
 have k0:=k.below ai;have c7:W0.cell? ⟨h.bh,7,none⟩=some (.pointer (some ⟨h.br,0,none⟩)):=k0.cell 7;have rM:=do_none k0.run 0 0;have af:=k.lt;obtain ⟨bx,aT⟩:=Haa w.heap.size;rw [aT.out]at hx bu af;obtain ⟨Q,hQ⟩:∃Q:World->Prop,Hid (cU w h U x=Q):=⟨_,rfl⟩
 have HE:Hid (∀W,bJ W0 h.br h.l U x.m x.T x.O W->W.heap[bx]?=some (.cells #[.int .i64 0,.int .i64 0] 54 (0,0))/\Hid (∀W2,Mod (fun b=>b=bx) W W2->Q W2)):=hd (fun W ho=>by
  have hn:¬(U bx\/bx=h.br):=fun e=>by
   have:=af bx (by
    rcases e with e|e
    ·exact .inl e
    ·exact .inr (.inl e))
   omega
  refine ⟨(ho.1.block bx (by omega) hn).trans hx,hd (fun W2 hm=> ?_)⟩;rw [<-hQ.out]
  exact cU.fin k ai (k0.OV ho) (by rw [aT.out];exact aag _) (by omega) hm)
 rw [hQ.out];obtain ⟨V1,zo⟩:=Haa x.T;obtain ⟨V2,zr⟩:=Haa x.O;obtain ⟨N,hN⟩:∃N:World->Prop,Hid (bJ W0 h.br h.l U x.m x.T x.O=N):=⟨_,rfl⟩;rw [hN.out]at rM HE;rw [zo.out,zr.out]at rM⊢;unfold yh at rM;clear k k0 ai hx bu af hQ zo zr hN;go_enter func22,ntmps22;go_upto_region 1 with fail;rw [aD.out,aT.out];clear aD aT;go_upto_region 2 with(go_at_call 36;(with_reducible refine rM.mono ?_);rintro e w1 ⟨rfl,ho⟩;clear rM;obtain ⟨hx,HQ⟩:=HE.out w1 ho;clear HE ho);have fe:=aA w1 (.cells #[.int .i64 1,.int .i64 V1,.int .i64 V2] 81);have hy:=aae w1 (.cells #[.int .i64 1,.int .i64 V1,.int .i64 V2] 81);have As:=(fe.block bx (aab.1 hx).1).trans hx;obtain ⟨W2,gq⟩:=Haa (w1.alloc (.cells #[.int .i64 1,.int .i64 V1,.int .i64 V2] 81));obtain ⟨by',pX⟩:=Haa w1.heap.size;rw [gq.out]at fe As hy;rw [pX.out]at hy;rw [gq.out,pX.out];have y1:=aaa _ _ 1 _ _ _ hy;have y2:=aaa _ _ 2 _ _ _ hy;have x0:=aaa _ _ 0 _ _ _ As;have x1:=aaa _ _ 1 _ _ _ As;have xf:∀i,W2.frozen? ⟨bx,i,none⟩=false:=fun i=>by simp [World.frozen?,As]
 obtain ⟨V,hV⟩:=Haa ((W2.setCell ⟨bx,0,none⟩ (.int .i64 V1)).setCell ⟨bx,1,none⟩ (.int .i64 V2))
 have HV:Hid (Q V):=hd (by
  rw [<-hV.out]
  exact HQ.out _ ((Mod.aS _ fe).trans (dz (dP _ _ _ _) _ _) (fun _ e=> .inl e)))
 have HR:Hid (V.heap[bx]?=some (.cells #[.int .i64 V1,.int .i64 V2] 54 (0,0))):=hd (by
  rw [<-hV.out,aU (aU As _) _]
  rfl)
 clear fe hy As hx HQ gq pX;go_wp2_with fail;rw [hV.out];have j0:=aaa _ _ 0 _ _ _ HR.out;have j1:=aaa _ _ 1 _ _ _ HR.out;refine aar (v:=.agg #[.int .i64 V1,.int .i64 V2]) ?_ rfl ⟨rfl,HV.out⟩;clear HV HR hV x0 x1 y1 y2 xf;simp at j0 j1;simp [results,results22,go_sem,j0,j1]
theorem Uy(k:ed w h U sa sc x):Calls prog 20 #[.pointer (some ⟨h.bh,0,none⟩)] w fun e w'=>e=.returned (.bool (decide (x.due=0)&&decide (x.rest.length=0)))/\w=w':=by
 have c8:w.cell? ⟨h.bh,8,none⟩=some (.slice sa x.rest.length sc):=k.cell 8;have c9:w.cell? ⟨h.bh,9,none⟩=some (.int .i64 x.due):=k.cell 9;clear k;generalize x.rest.length=n at*
 generalize x.due=d at*
 by_cases e1:d=0
 ·subst e1;by_cases e2:n=0
  ·subst e2;go_enter func20,ntmps20
   go_wp2
   go_ret;exact ⟨rfl,rfl⟩
  ·have e3:((n:Int)==0)=false:=by simp;omega
   have e4:decide (n=0)=false:=by simpa using e2
   rw [e4];clear e2 e4;go_enter func20,ntmps20
   go_wp2
   go_ret;exact ⟨rfl,rfl⟩
 ·have e3:(d==0)=false:=by simpa using e1
  have e4:decide (d=0)=false:=by simpa using e1
  rw [e4];clear e1 e4;go_enter func20,ntmps20
  go_wp2
  go_ret;exact ⟨rfl,rfl⟩
theorem room_any(k:ed w h U sa sc x){n:Int}(h1:1<=n)(h2:n<=65536-x.T)(h3:0<=x.T):Calls prog 56 #[.pointer (some ⟨h.bh,0,none⟩),.int .i64 n] w fun e w'=>e=.returned (.bool true)/\cU w h U x w':=by
 have hn:=JU k;obtain ⟨Q,hQ⟩:∃Q:World->Prop,Hid (cU w h U x=Q):=⟨_,rfl⟩;rw [hQ.out]at hn⊢;generalize x.T=T at*
 generalize x.O=O at*
 have w1:wrap64 (65536-T)=65536-T:=by unfold wrap64;omega
 have kA:∀W,(Instr.field 54 (.agg #[.int .i64 T,.int .i64 O]) 0).run prog W=.ok (.int .i64 T) W:=fun W=>Vj T O W
 clear k;go_enter func56,ntmps56;go_wp2_with (go_at_call 22;(with_reducible refine hn.mono ?_);rintro e w1 ⟨rfl,ho⟩);go_ret;exact ⟨rfl,ho⟩
end
section
variable{w w':World} {h:HL} {U:Nat->Prop} {sa:Option Addr} {sc:Nat} {x:HS}
theorem begin_tick(k:ed w h U sa sc x){n:Int}(v:Int)(h1:1<=n)(h2:n<=65536-x.T)(h3:0<=x.T):Calls prog 37 #[.pointer (some ⟨h.bh,0,none⟩),.agg #[.int .i64 1,.int .i64 n,.int .i64 v]] w fun e w'=>e=.returned (.tuple #[])/\cU w h U {x with due:=n} w':=by
 have ai:=aA w (.cells #[.int .i64 1,.int .i64 n,.int .i64 v] 32);have hx:=aae w (.cells #[.int .i64 1,.int .i64 n,.int .i64 v] 32);obtain ⟨W0,aD⟩:=Haa (w.alloc (.cells #[.int .i64 1,.int .i64 n,.int .i64 v] 32));rw [aD.out]at ai hx;have bu:W0.heap.size=w.heap.size+1:=by rw [<-aD.out];simp
 have k0:=k.below ai;have AY:=room_any k0 h1 h2 h3;have af:=k.lt;obtain ⟨bx,aT⟩:=Haa w.heap.size;rw [aT.out]at hx bu af;have a0:W0.cell? ⟨bx,0,none⟩=some (.int .i64 1):=aaa _ _ _ _ _ _ hx;have a1:W0.cell? ⟨bx,1,none⟩=some (.int .i64 n):=aaa _ _ _ _ _ _ hx;obtain ⟨Q,hQ⟩:∃Q:World->Prop,Hid (cU w h U {x with due:=n}=Q):=⟨_,rfl⟩
 have HE:Hid (∀W,cU W0 h U x W->W.cell? ⟨bx,1,none⟩=some (.int .i64 n)/\(∃u,W.cell? ⟨h.bh,9,none⟩=some u)/\(∀i,W.frozen? ⟨h.bh,i,none⟩=false)/\Hid (Q (W.setCell ⟨h.bh,9,none⟩ (.int .i64 n)))):=hd (fun W ho=>by
  have hn:¬h.fp U bx:=fun e=>by
   have:=af bx e;omega
  have e:=ho.1.block bx (aab.1 hx).1 hn;obtain ⟨om,U',s1,c1,k1,c⟩:=id ho;refine ⟨?_,⟨_,k1.cell 9⟩,k1.fr,hd ?_⟩
  ·rw [aaa _ _ _ _ _ _ (e.trans hx)];rfl
  ·rw [<-hQ.out]
   exact (cU.ahead ai ho).trans fun U' s c k2=>k2.VG n)
 obtain ⟨N,hN⟩:∃N:World->Prop,Hid (cU W0 h U x=N):=⟨_,rfl⟩;rw [hN.out]at AY HE;rw [hQ.out];clear k k0 ai hx bu af hQ hN h1 h2 h3;go_enter func37,ntmps37;go_upto_region 1 with fail;rw [aD.out,aT.out];clear aD aT;go_wp2_with (go_at_call 56;(with_reducible refine AY.mono ?_);rintro e w1 ⟨rfl,ho⟩;clear AY;obtain ⟨a2,⟨u,d9⟩,df,HQ⟩:=HE.out w1 ho;clear HE ho a0 a1);refine aar (abA rfl _ _ _) rfl ?_;exact ⟨rfl,HQ.out⟩
def idle(c:ak)(m:MS)(s:cK):Prop:=(s.1=2\/s.1=3)/\eG c m s.2.1≠0
theorem begin_idle(k:ed w h U sa sc x){q n v:Int}(hi:idle h.l.c x.m (q,n,v)):Calls prog 37 #[.pointer (some ⟨h.bh,0,none⟩),.agg #[.int .i64 q,.int .i64 n,.int .i64 v]] w fun e w'=>e=.returned (.tuple #[])/\cU w h U x w':=by
 have ai:=aA w (.cells #[.int .i64 q,.int .i64 n,.int .i64 v] 32);have hx:=aae w (.cells #[.int .i64 q,.int .i64 n,.int .i64 v] 32);obtain ⟨W0,aD⟩:=Haa (w.alloc (.cells #[.int .i64 q,.int .i64 n,.int .i64 v] 32));rw [aD.out]at ai hx;have k0:=k.below ai;have c7:W0.cell? ⟨h.bh,7,none⟩=some (.pointer (some ⟨h.br,0,none⟩)):=k0.cell 7;have Mn:=k0.below (fu W0);have rM:∃E,Calls prog 36 #[.pointer (some ⟨h.br,0,none⟩),.agg #[.int .i64 q,.int .i64 n,.int .i64 v]] W0.drew fun e w'=>e=.returned E/\bJ W0.drew h.br h.l U x.m x.T x.O w':=by
  obtain ⟨e|e,hl⟩:=hi
  ·simp only at e hl;subst e;exact ⟨_,do_inject Mn.run n v hl⟩
  ·simp only at e hl;subst e;exact ⟨_,do_kill Mn.run n v hl⟩
 obtain ⟨E,rM⟩:=rM;obtain ⟨bx,aT⟩:=Haa w.heap.size;rw [aT.out]at hx;have a0:W0.cell? ⟨bx,0,none⟩=some (.int .i64 q):=aaa _ _ _ _ _ _ hx;have a1:W0.cell? ⟨bx,1,none⟩=some (.int .i64 n):=aaa _ _ _ _ _ _ hx;have a2:W0.cell? ⟨bx,2,none⟩=some (.int .i64 v):=aaa _ _ _ _ _ _ hx;have e1:(q==1)=false:=by
  obtain ⟨e|e,hl⟩:=hi<;>(simp only at e;subst e;rfl)
 obtain ⟨Q,hQ⟩:∃Q:World->Prop,Hid (cU w h U x=Q):=⟨_,rfl⟩
 have HE:Hid (∀W,bJ W0.drew h.br h.l U x.m x.T x.O W->Hid (Q W)):=hd (fun W ho=>hd (by
  rw [<-hQ.out]
  exact cU.ahead ai (cU.ahead (fu W0) (Mn.OV ho))))
 obtain ⟨N,hN⟩:∃N:World->Prop,Hid (bJ W0.drew h.br h.l U x.m x.T x.O=N):=⟨_,rfl⟩;rw [hN.out]at rM HE;rw [hQ.out];clear k k0 Mn ai hx hQ hN hi;go_enter func37,ntmps37;go_upto_region 1 with fail;rw [aD.out,aT.out];clear aD aT;go_upto_region 3 with fail;go_region_law (first|(go_simp;(with_reducible refine rM.mono ?_);rintro e w1 ⟨rfl,ho⟩;clear rM;have HQ:=HE.out w1 ho;clear HE ho a0 a1 a2 c7))
 all_goals (
  go_wp2_with fail;go_end0
  exact ⟨rfl,HQ.out⟩)
end
def I6:List cK->Int->List cK×Int
 |[],d=>([],d)
 |s::r,d=>if d=0 then I6 r (if s.1=1 then s.2.1 else 0)else(s::r,d)
def pW(c:ak)(m:MS)(T:Int):List cK->Int->Prop
 |[],_=>True
 |s::r,d=>d=0->((s.1=1/\1<=s.2.1/\s.2.1<=65536-T)\/idle c m s)/\pW c m T r (if s.1=1 then s.2.1 else 0)
def bX(c:ak)(x:HS):HS:=if 0<x.due then{x with m:=rX c x.m,T:=x.T+1,O:=(pQ c x.m:Int),due:=x.due-1}else x
def vS(x:HS):HS:={x with rest:=(I6 x.rest x.due).1,due:=(I6 x.rest x.due).2}
def Mo(c:ak)(x:HS):HS:=vS (bX c x)
section
variable{w w':World} {h:HL} {U:Nat->Prop} {sa:Option Addr} {sc:Nat} {x y:HS}
theorem Vk{s:cK}{r:List cK}{a:Option Addr}(hr:Rd w a (bB (s::r))):∃b o,a=some ⟨b,o,none⟩/\w.cell? ⟨b,o,none⟩=some (.int .i64 s.1)/\w.cell? ⟨b,o+1,none⟩=some (.int .i64 s.2.1)/\w.cell? ⟨b,o+2,none⟩=some (.int .i64 s.2.2):=by
 obtain ⟨b,o,rfl,h0⟩:=hr 0 (.int .i64 s.1) rfl;obtain ⟨b1,o1,e1,h1⟩:=hr 1 (.int .i64 s.2.1) rfl;obtain ⟨b2,o2,e2,h2⟩:=hr 2 (.int .i64 s.2.2) rfl
 cases e1
 cases e2
 exact ⟨b,o,rfl,h0,h1,h2⟩
theorem sp_tail{s:cK}{r:List cK}{b o:Nat}(hr:Rd w (some ⟨b,o,none⟩) (bB (s::r))):Rd w (some ⟨b,o+3,none⟩) (bB r):=fun j u hj=>by
 obtain ⟨b1,o1,e1,h1⟩:=hr (3+j) u (by
  show(pG s++bB r)[3+j]?=some u;rw [aan (by simp [pG])];rw [show 3+j-(pG s).length=j by simp [pG]]
  exact hj)
 cases e1
 exact ⟨b,o+3,rfl,by rw [<-h1];congr 2;omega⟩
theorem lpS_stop{z:HS}(hd:z.due≠0\/z.rest=[]):vS z=z:=by
 obtain ⟨m,T,O,d,r⟩:=z;unfold vS
 cases r with
 |nil=>rfl
 |cons s r=>
  have:d≠0:=by
   rcases hd with e|e
   ·exact e
   ·cases e
  simp [I6,this]
theorem begin_any{z:HS}{s:cK}{r:List cK}(k:ed w h U sa sc z)(hd:z.due=0)(hr:z.rest=s::r)(j7:pW h.l.c z.m z.T z.rest z.due)(hT:0<=z.T):Calls prog 37 #[.pointer (some ⟨h.bh,0,none⟩),.agg #[.int .i64 s.1,.int .i64 s.2.1,.int .i64 s.2.2]] w fun e w'=>e=.returned (.tuple #[])/\cU w h U {z with due:=if s.1=1 then s.2.1 else 0} w':=by
 rw [hr]at j7;obtain ⟨e,-⟩:=j7 hd;rcases e with⟨e1,e2,e3⟩|e
 ·rw [aah e1,e1];exact begin_tick k s.2.2 e2 e3 hT
 ·have hn:s.1≠1:=by
   rcases e.1 with e1|e1<;>omega
  rw [aaf hn];have e2:({z with due:=0}:HS)=z:=by rw [<-hd]
  rw [e2];exact begin_idle k (q:=s.1) (n:=s.2.1) (v:=s.2.2) e
theorem ed.less{s:cK}{r:List cK}(k:ed w h U sa sc x)(hr:x.rest=s::r):∃b o,sa=some ⟨b,o,none⟩/\cU w h U {x with rest:=r} (w.setCell ⟨h.bh,8,none⟩ (.slice (if sc=1 then some ⟨b,o,none⟩else some ⟨b,o+3,none⟩) r.length (sc-1))):=by
 have jM:=k.rd;rw [hr]at jM;obtain ⟨b,o,rfl,-⟩:=Vk jM;have hle:=k.le;rw [hr]at hle;simp only [List.length_cons]at hle;refine ⟨b,o,rfl,k.setRest r _ _ ?_ ?_ (by omega)⟩
 ·split
  ·next e=>
   have:r=[]:=aaN (by omega);rw [this];intro j u hj;simp [bB]at hj
  ·exact sp_tail jM
 ·intro _ b' eW;refine k.ks (by rw [hr];simp) b' ?_;split at eW<;>exact eW
theorem DQ(k:ed w h U sa sc x)(hs:aG h.l.c x.m)(hc:dK h.l.c)(Bc:0<=x.T)(hT:x.T+1<=65536)(ht:x.m.tick<=65536)(hd0:0<=x.due)(fF:x.due<=65536)(j7:pW h.l.c (bX h.l.c x).m (bX h.l.c x).T (bX h.l.c x).rest (bX h.l.c x).due):Calls prog 21 #[.pointer (some ⟨h.bh,0,none⟩)] w fun e w'=>e=.returned (.tuple #[])/\cU w h U (Mo h.l.c x) w':=by
 obtain ⟨y,hy⟩:=Haa (bX h.l.c x);rw [hy.out]at j7;obtain ⟨Q,hQ⟩:∃Q:World->Prop,Hid (cU w h U (Mo h.l.c x)=Q):=⟨_,rfl⟩
 have HQ:Hid (∀W,cU w h U (vS y) W->Q W):=hd (fun W o=>by
  rw [<-hQ.out];unfold Mo;rw [hy.out]
  exact o)
 have HY:Hid (0<=y.T):=hd (by
  rw [<-hy.out];unfold bX;split
  ·show 0<=x.T+1;omega
  ·exact Bc)
 have AA:=hd j7;have c7:w.cell? ⟨h.bh,7,none⟩=some (.pointer (some ⟨h.br,0,none⟩)):=k.cell 7;have c9:w.cell? ⟨h.bh,9,none⟩=some (.int .i64 x.due):=k.cell 9;have HK:=hd k;rw [hQ.out];obtain ⟨d,jZ⟩:=Haa x.due;rw [jZ.out]at c9 hd0 fF
 have Mp:Hid (0<d->Calls prog 36 #[.pointer (some ⟨h.br,0,none⟩),.agg #[.int .i64 1,.int .i64 1,.int .i64 0]] w fun e w'=>(∃E,e=.returned E)/\Hid (w'.cell? ⟨h.bh,9,none⟩=some (.int .i64 d)/\(∀i,w'.frozen? ⟨h.bh,i,none⟩=false)/\cU w h U y (w'.setCell ⟨h.bh,9,none⟩ (.int .i64 (d-1))))):=hd (fun Ab=>by
  refine (do_tick k.run hs hc 1 0 (by omega) Bc (by omega) ht).mono fun e w1 he=>⟨⟨_,he.1⟩,hd ?_⟩
  obtain ⟨-,ho⟩:=he;obtain ⟨U1,k1,-⟩:=k.on ho;have e9:=k1.cell 9;refine ⟨by rw [e9,<-jZ.out];rfl,k1.fr, ?_⟩;have h2:=(k.OV ho).trans fun U' s c k2=>k2.VG (d-1)
  have e:y={x with m:=rX h.l.c x.m,T:=x.T+1,O:=(pQ h.l.c x.m:Int),due:=d-1}:=by
   rw [<-hy.out];unfold bX;rw [jZ.out,aah Ab]
  rw [e]
  exact h2)
 have lQ:Hid (d=0->cU w h U y w):=hd (fun h0=>by
  have e:y=x:=by
   rw [<-hy.out];unfold bX;rw [jZ.out,aaf (by omega)]
  rw [e]
  exact cU.refl k)
 clear k hs hc Bc hT ht j7 hQ hy;go_enter func21,ntmps21;go_upto_if 6 with fail;go_cut [7,8,9,10,11,12,13,14,15,16,17,18,19] (fun _ _ _ _ _ _ _ _ _ _ _ _ _ wy=>Hid (cU w h U y wy))
 case first=>
  by_cases Ab:0<d
  ·have rM:=Mp.out Ab;clear lQ Mp HQ HY AA HK;go_wp2_with (go_at_call 36;(with_reducible refine rM.mono ?_);rintro e w1 ⟨⟨E,rfl⟩,HO⟩;clear rM;obtain ⟨e9,ef,HF⟩:=HO.out;replace HF:=hd HF;clear HO c7 c9);go_meet
   case rel=>exact HF
  ·obtain rfl:d=0:=by omega
   have HF:=hd (lQ.out rfl);clear lQ Mp HQ HY AA HK;go_wp2_with fail;go_meet
   case rel=>exact HF
 case rest=>
  clear lQ Mp HK c7 c9;have HI:Hid (∃z:HS,cU w h U z wc/\z.rest.length=y.rest.length/\pW h.l.c z.m z.T z.rest z.due/\0<=z.T/\vS z=vS y):=hd ⟨y,hcut.out,rfl,AA.out,HY.out,rfl⟩;obtain ⟨N0,Z7⟩:=Haa y.rest.length;rw [Z7.out]at HI;clear hcut HY AA Z7;go_wp2_with fail;go_loopg [20,21,22,23,24,25,26,27,28,29,30,31,32,33,34,35,36,37,38,39,40,41,42,43,44,45,46,47,48] N0 (fun g _ _ _ _ _ _ _ _ _ _ _ _ _ _ _ _ _ _ _ _ _ _ _ _ _ _ _ _ _ wr=>Hid (∃z:HS,cU w h U z wr/\z.rest.length=g/\pW h.l.c z.m z.T z.rest z.due/\0<=z.T/\vS z=vS y))
  case atStart=>exact HI
  case round=>
   obtain ⟨z,ho,hl,j7,hT,hz⟩:=hrel.out;clear HI hrel;obtain ⟨om,U1,s1,n1,k1,hu⟩:=id ho;have c8:wr.cell? ⟨h.bh,8,none⟩=some (.slice s1 z.rest.length n1):=k1.cell 8;have c9:wr.cell? ⟨h.bh,9,none⟩=some (.int .i64 z.due):=k1.cell 9;by_cases Cr:z.due≠0\/z.rest=[]
   ·have HF:Hid (Q wr):=hd (by
     have:=HQ.out wr;rw [<-hz,lpS_stop Cr]at this
     exact this ho)
    clear ho om k1 hu j7 hT hz HQ;by_cases e1:z.due=0
    ·have e2:z.rest=[]:=by
      rcases Cr with e|e
      ·exact absurd e1 e
      ·exact e
     rw [e1]at c9;rw [e2]at c8;simp only [List.length_nil]at c8;clear e1 e2 Cr hl;go_wp2_with fail;go_end0;exact ⟨rfl,HF.out⟩
    ·have e3:(z.due==0)=false:=by simpa using e1
     generalize z.due=d1 at*
     clear e1 Cr hl;go_wp2_with fail;go_end0;exact ⟨rfl,HF.out⟩
   ·have fF:z.due=0:=by
     rcases Decidable.em (z.due=0)with e|e
     ·exact e
     ·exact absurd (.inl e) Cr
    obtain ⟨s,r,hr⟩:∃s r,z.rest=s::r:=by
     cases e:z.rest with
     |nil=>exact absurd (.inr e) Cr
     |cons s r=>exact ⟨s,r,rfl⟩
    have px:=begin_any k1 fF hr j7 hT;have jM:=k1.rd;rw [hr]at jM;obtain ⟨b,o,rfl,q0,q1,q2⟩:=Vk jM;rw [fF]at c9;rw [hr]at c8;simp only [List.length_cons]at c8;have Z8:r.length+1=gk:=by rw [<-hl,hr];rfl
    obtain ⟨R,hR⟩:=Haa r.length;rw [hR.out]at c8 Z8
    have HN:Hid (∀w1,cU wr h U1 {z with due:=if s.1=1 then s.2.1 else 0} w1->∃b' o' n',w1.cell? ⟨h.bh,8,none⟩=some (.slice (some ⟨b',o',none⟩) (R+1) n')/\R+1<=n'/\(∀i,w1.frozen? ⟨h.bh,i,none⟩=false)/\
     Hid (∃z':HS,cU w h U z' (w1.setCell ⟨h.bh,8,none⟩ (.slice (if n'=1 then some ⟨b',o',none⟩else some ⟨b',o'+3,none⟩) R (n'-1)))/\z'.rest.length=R/\pW h.l.c z'.m z'.T z'.rest z'.due/\0<=z'.T/\vS z'=vS y)):=hd (fun w1 h1=>by
     obtain ⟨om2,U2,s2,n2,k2,Mh⟩:=id h1;have j9:({z with due:=if s.1=1 then s.2.1 else 0}:HS).rest=s::r:=hr;obtain ⟨b',o',e',h2⟩:=k2.less j9;have e8:=k2.cell 8;have PM:=k2.le;rw [j9]at e8 PM;simp only [List.length_cons,hR.out]at e8 PM;rw [hR.out]at h2;refine ⟨b',o',n2,by rw [e8,e'];rfl,PM,k2.fr,hd ⟨{z with due:=if s.1=1 then s.2.1 else 0,rest:=r}, ?_,hR.out, ?_,hT, ?_⟩⟩
     ·exact cU.via om hu (cU.via om2 Mh h2)
     ·rw [hr]at j7;exact (j7 fF).2
     ·rw [<-hz];unfold vS
      rw [hr,I6,aah fF])
    subst Z8;obtain ⟨N,hN⟩:∃N:World->Prop,Hid (cU wr h U1 {z with due:=if s.1=1 then s.2.1 else 0}=N):=⟨_,rfl⟩;rw [hN.out]at px HN;obtain ⟨s0,s1',s2'⟩:=s;simp only at px q0 q1 q2;clear ho om k1 hu j7 hT hz HQ Cr jM hl hN fF hr hR;go_upto_region 4 with fail;go_upto_region 5 with(go_at_call 37;(with_reducible refine px.mono ?_);rintro e w1 ⟨rfl,h1⟩;clear px;obtain ⟨b',o',n',e8,XR,ef,HZ⟩:=HN.out w1 h1;clear HN h1 c8 c9 q0 q1 q2);have hn'':(1:Int)<=((R+1:Nat):Int):=by omega
    obtain ⟨A,hA⟩:∃A,(if n'=1 then some ⟨b',o',none⟩else some ⟨b',o'+3,none⟩:Option Addr)=A:=⟨_,rfl⟩;rw [hA]at HZ;go_wp2_with fail;go_roundg R
    case rel=>exact HZ
    case measure=>omega
end
theorem View.sO.kept{lo hi:Nat}{w w':World}{cs:List Value}{x:View.tz}(h:View.sO lo hi w cs x)(hk:∀k,lo<=k->k<hi->w'.heap[k]?=w.heap[k]?):View.sO lo hi w' cs x:=by
 obtain ⟨a1,c1,L1,b1,a2,c2,L2,b2,e,r1,r2,n1,n2,l1,m1,l2,m2,l3,B1,B2,h1,h2⟩:=h;have di:=View.pM _ m1;have cO:=View.pM _ m2;have t1:=(di x.ps.length (aag _)).1;have t2:=(cO x.qs.length (aag _)).1;refine ⟨a1,c1,L1,b1,a2,c2,L2,b2,e,r1.kept fun k mJ=>hk k (n1 k mJ).1 (by have:=(n1 k mJ).2.1;omega),r2.kept fun k mJ=>hk k (n2 k mJ).1 (by have:=(n2 k mJ).2;omega),n1,n2,l1,m1,l2,m2,l3,B1,B2,fun i hi=> ?_,fun i hi=> ?_⟩
 ·have q1:=di i (by omega);have q2:=di (i+1) (by omega);exact (h1 i hi).kept fun k k1 k2=>hk k (by omega) (by omega)
 ·have q1:=cO i (by omega);have q2:=cO (i+1) (by omega);exact (h2 i hi).kept fun k k1 k2=>hk k (by omega) (by omega)
def Kh(w:World)(X:View.tz)(e:Ending)(w':World):Prop:=∃cs,e=.returned (.agg cs.toArray)/\View.sE w' cs X/\Below w.heap.size w w'
section
variable{w w':World} {h:HL} {U:Nat->Prop} {sa:Option Addr} {sc:Nat} {x:HS}
theorem ed.cfg(k:ed w h U sa sc x):w.cell? ⟨h.bh,0,none⟩=some (.slice h.g.la h.c.labels.length h.g.lc)/\w.cell? ⟨h.bh,1,none⟩=some (.slice h.g.ta h.c.table.length h.g.tc)/\w.cell? ⟨h.bh,2,none⟩=some (.int .i64 h.c.fuel)/\w.cell? ⟨h.bh,3,none⟩=some (.int .i64 h.c.lane)/\w.cell? ⟨h.bh,4,none⟩=some (.int .i64 h.c.aF)/\w.cell? ⟨h.bh,5,none⟩=some (.int .i64 h.c.log)/\w.cell? ⟨h.bh,6,none⟩=some (.slice h.g.pa h.c.procs.length h.g.pc)/\w.cell? ⟨h.bh,7,none⟩=some (.pointer (some ⟨h.br,0,none⟩)):=
 ⟨k.cell 0,k.cell 1,k.cell 2,k.cell 3,k.cell 4,k.cell 5,k.cell 6,k.cell 7⟩
theorem Uz(k:ed w h U sa sc x)(hs:aG h.l.c x.m)(hc:dK h.l.c)(rz:dK h.c)(hf:yl x.m=true)(a:Nat)(ha:a<18446744073709551616):Calls prog 35 #[.pointer (some ⟨h.bh,0,none⟩),.int .u64 (a:Int)] w (Kh w (View.xH (qD h.c) a (zC x.m))):=by
 have ai:=aA w (.cells z51 78);have hx:=aae w (.cells z51 78);obtain ⟨W0,aD⟩:=Haa (w.alloc (.cells z51 78));rw [aD.out]at ai hx;have bu:W0.heap.size=w.heap.size+1:=by rw [<-aD.out];simp
 have k0:=k.below ai;have aJ:=rstate_any (k0.below (fu W0)).run hs hc;have HC:Hid (∀W,Below W0.heap.size W0 W->W.cell? ⟨h.bh,0,none⟩=some (.slice h.g.la h.c.labels.length h.g.lc)/\W.cell? ⟨h.bh,1,none⟩=some (.slice h.g.ta h.c.table.length h.g.tc)/\W.cell? ⟨h.bh,2,none⟩=some (.int .i64 h.c.fuel)/\W.cell? ⟨h.bh,3,none⟩=some (.int .i64 h.c.lane)/\W.cell? ⟨h.bh,4,none⟩=some (.int .i64 h.c.aF)/\W.cell? ⟨h.bh,5,none⟩=some (.int .i64 h.c.log)/\W.cell? ⟨h.bh,6,none⟩=some (.slice h.g.pa h.c.procs.length h.g.pc)/\W.cell? ⟨h.bh,7,none⟩=some (.pointer (some ⟨h.br,0,none⟩))):=hd (fun W hb=>(k0.below hb).cfg);obtain ⟨bx,aT⟩:=Haa w.heap.size;rw [aT.out]at hx bu;obtain ⟨X,hX⟩:=Haa (View.xH (qD h.c) a (zC x.m))
 have HO:Hid (∀e w1,Kb W0.drew x.m e w1->∃cs:List Value,e=.returned (.agg cs.toArray)/\Hid (Below W0.drew.heap.size W0.drew w1)/\Calls prog 53 #[.agg (Dz h.c h.g).toArray,.agg cs.toArray,.int .u64 (a:Int)] w1 (View.Kc w1 X)):=hd (fun e w1 ho=>by
  obtain ⟨B,ps,a1,c1,qs,b1,d1,Fs,rfl,hB,hS,hb⟩:=ho;have hr:=hS.rd hs;refine ⟨([.int .i64 x.m.tick,.slice a1 x.m.pt.length c1,.slice b1 x.m.pr.length d1]:List Value),rfl,hd hb, ?_⟩;rw [<-hX.out];have aI:Below W0.heap.size W0 w1:=cC hb
  exact View.of_any (Gv (k0.below aI).cf (aai rz.n8 (by decide)) (aai rz.k_ (by decide)) rz.pY) (st_of hr hf) (few_of hf) a ha)
 obtain ⟨Q,hQ⟩:=Haa (Kh w X)
 have HE:Hid (∀w1 e w2,Below W0.drew.heap.size W0.drew w1->View.Kc w1 X e w2->∃t a1 n1 c1 a2 n2 c2,e=.returned (.agg #[.int .i64 t,.slice a1 n1 c1,.slice a2 n2 c2])/\Hid (w2.heap[bx]?=some (.cells z51 78 (0,0)))/\Hid (∀W,Mod (fun b=>b=bx) w2 W->Q (.returned (.agg #[.int .i64 t,.slice a1 n1 c1,.slice a2 n2 c2])) W)):=hd (fun w1 e w2 aH ho=>by
  obtain ⟨cs,rfl,hS,aI⟩:=ho;have eH:Below W0.heap.size W0 w2:=(cC aH).trans (aI.mono (cC aH).size);obtain ⟨a1,c1,L1,b1,a2,c2,L2,b2,rfl,hS'⟩:=id hS;refine ⟨_,_,_,_,_,_,_,rfl,hd ((eH.block bx (by omega)).trans hx),hd (fun W hm=> ?_)⟩;rw [<-hQ.out];have ZF:bx<w1.heap.size:=by have:=(cC aH).size;omega
  refine ⟨_,rfl,View.sO.rd (hS.kept fun b k1 _=>hm.block b (by
   rcases aaU b w2.heap.size with e|e
   ·exact e
   ·omega) (by omega)),((Mod.aS (fun _=>False) (ai.trans (eH.mono ai.size))).trans hm (fun b e=> .inr (by have:=aT.out;omega))).below (aag _) (fun _ _ e=>e.elim)⟩)
 obtain ⟨N1,iz⟩:∃N:Ending->World->Prop,Hid (Kb W0.drew x.m=N):=⟨_,rfl⟩;rw [hX.out,hQ.out];rw [iz.out]at aJ HO;unfold z51 at aD HE;unfold Dz at HO;try dsimp only at HO
 clear k k0 hs hc rz hf ai hx bu hX hQ iz;go_enter func35,ntmps35;go_upto_region 1 with fail;rw [aD.out,aT.out];clear aD aT;obtain ⟨c0,c1,c2,c3,c4,c5,c6,c7⟩:=HC.out W0.drew (ck W0 1)
 go_region_law (first
  |(go_simp;(with_reducible refine aJ.mono ?_);rintro e w1 he;obtain ⟨cs,rfl,hb,Z9⟩:=HO.out e w1 he;clear he aJ;obtain ⟨d0,d1,d2,d3,d4,d5,d6,d7⟩:=HC.out w1 (cC hb.out))
  |(go_simp;(with_reducible refine Z9.mono ?_);rintro e w2 he;obtain ⟨t,a1,n1,rr,a2,n2,sD,rfl,HY,HZ⟩:=HE.out w1 e w2 hb.out he;clear he Z9;have k0:=aaa _ _ 0 _ _ _ HY.out;have k1:=aaa _ _ 1 _ _ _ HY.out;have k2:=aaa _ _ 2 _ _ _ HY.out;have kf:∀i,w2.frozen? ⟨bx,i,none⟩=false:=(fun i=>by simp [World.frozen?,HY.out])))
 all_goals (
  have HQ:=hd (HZ.out (((w2.setCell ⟨bx,0,none⟩ (.int .i64 t)).setCell ⟨bx,1,none⟩ (.slice a1 n1 rr)).setCell ⟨bx,2,none⟩ (.slice a2 n2 sD)) (dz (dz (dP _ _ _ _) _ _) _ _))
  have eV:Hid ((((w2.setCell ⟨bx,0,none⟩ (.int .i64 t)).setCell ⟨bx,1,none⟩ (.slice a1 n1 rr)).setCell ⟨bx,2,none⟩ (.slice a2 n2 sD)).heap[bx]?=some (.cells #[.int .i64 t,.slice a1 n1 rr,.slice a2 n2 sD] 78 (0,0))):=hd (by
   rw [aU (aU (aU HY.out _) _)]
   rfl)
  obtain ⟨V,hV⟩:=Haa (((w2.setCell ⟨bx,0,none⟩ (.int .i64 t)).setCell ⟨bx,1,none⟩ (.slice a1 n1 rr)).setCell ⟨bx,2,none⟩ (.slice a2 n2 sD));rw [hV.out]at HQ eV⊢;clear HZ HY k0 k1 k2 kf;go_wp2_with fail;have j0:=aaa _ _ 0 _ _ _ eV.out;have j1:=aaa _ _ 1 _ _ _ eV.out;have j2:=aaa _ _ 2 _ _ _ eV.out;refine aar (v:=.agg #[.int .i64 t,.slice a1 n1 rr,.slice a2 n2 sD]) ?_ rfl HQ.out;clear HQ eV hV;simp at j0 j1 j2
  simp [results,results35,go_sem,j0,j1,j2])
end
structure Bz(w0 w:World)(ha hb:HL)(Ua Ub:Nat->Prop)(sa:Option Addr)(ca:Nat)(sb:Option Addr)(cb:Nat)(xa xb:HS):Prop where
 a:ed w ha Ua sa ca xa
 b:ed w hb Ub sb cb xb
 ab:∀k,ha.fp Ua k->¬hb.fp Ub k
 aK:∀k,ha.fp Ua k->¬hb.K k
 bK:∀k,hb.fp Ub k->¬ha.K k
 an:∀k,ha.fp Ua k->w0.heap.size<=k
 bn:∀k,hb.fp Ub k->w0.heap.size<=k
 au:Below w0.heap.size w0 w
def mC(w0 w:World)(ha hb:HL)(xa xb:HS):Prop:=∃Ua Ub sa ca sb cb,Bz w0 w ha hb Ua Ub sa ca sb cb xa xb
section
variable{w0 w w':World} {ha hb:HL} {Ua Ub:Nat->Prop} {sa sb:Option Addr} {ca cb:Nat} {xa xb y:HS}
theorem Bz.left(P:Bz w0 w ha hb Ua Ub sa ca sb cb xa xb)(o:cU w ha Ua y w'):mC w0 w' ha hb y xb:=by
 obtain ⟨om,U',s',c',k,hu⟩:=o;have cQ:=P.b.lt;have hf:∀k,ha.fp U' k->ha.fp Ua k\/w.heap.size<=k:=fun k hk=>by
  rcases hk with e|e
  ·rcases hu k e with e|e
   ·exact .inl (.inl e)
   ·exact .inr e
  ·exact .inl (.inr e)
 refine ⟨U',Ub,s',c',sb,cb,k,P.b.mod om (fun b h1 h2=>P.ab b h2 h1) (fun b h1 h2=>P.aK b h2 h1),fun b h1 h2=> ?_,fun b h1 h2=> ?_,P.bK,fun b h1=> ?_,P.bn,((Mod.aS (fun _=>False) P.au).trans om (fun b e=> .inr (P.an b e))).below (aag _) (fun _ _ e=>e.elim)⟩
 ·rcases hf b h1 with e|e
  ·exact P.ab b e h2
  ·have:=cQ b h2;omega
 ·rcases hf b h1 with e|e
  ·exact P.aK b e h2
  ·have:=P.b.mV b h2;omega
 ·rcases hf b h1 with e|e
  ·exact P.an b e
  ·exact aai P.au.size e
theorem Bz.swap(P:Bz w0 w ha hb Ua Ub sa ca sb cb xa xb):Bz w0 w hb ha Ub Ua sb cb sa ca xb xa:=⟨P.b,P.a,fun k h1 h2=>P.ab k h2 h1,P.bK,P.aK,P.bn,P.an,P.au⟩
theorem mC.swap(P:mC w0 w ha hb xa xb):mC w0 w hb ha xb xa:=by
 obtain ⟨Ua,Ub,sa,ca,sb,cb,P⟩:=P;exact ⟨Ub,Ua,sb,cb,sa,ca,P.swap⟩
theorem Bz.right(P:Bz w0 w ha hb Ua Ub sa ca sb cb xa xb)(o:cU w hb Ub y w'):mC w0 w' ha hb xa y:=(P.swap.left o).swap
theorem mC.au(P:mC w0 w ha hb xa xb)(h:Below w.heap.size w w'):mC w0 w' ha hb xa xb:=by
 obtain ⟨Ua,Ub,sa,ca,sb,cb,P⟩:=P;exact ⟨Ua,Ub,sa,ca,sb,cb,P.a.below h,P.b.below h,P.ab,P.aK,P.bK,P.an,P.bn,P.au.trans (h.mono P.au.size)⟩
theorem parted_no(P:mC w0 w ha hb xa xb)(sA:aG ha.l.c xa.m)(sB:aG hb.l.c xb.m)(cA:dK ha.l.c)(cB:dK hb.l.c)(dA:dK ha.c)(dB:dK hb.c)(fA:yl xa.m=true)(fB:yl xb.m=true)(a:Nat)(jA:a<18446744073709551616)(eT:xb.T=xa.T)(eO:xb.O=xa.O)(eX:View.xH (qD hb.c) a (zC xb.m)=View.xH (qD ha.c) a (zC xa.m)):
 Calls prog 19 #[.pointer (some ⟨ha.bh,0,none⟩),.pointer (some ⟨hb.bh,0,none⟩),.int .u64 (a:Int)] w fun e w'=>e=.returned (.bool false)/\mC w0 w' ha hb xa xb:=by
 obtain ⟨Ua,Ub,sa,ca,sb,cb,T⟩:=id P;have Mq:=JU T.a
 have H1:Hid (∀w1,cU w ha Ua xa w1->∃N:World->Prop,Calls prog 22 #[.pointer (some ⟨hb.bh,0,none⟩)] w1 (fun e w'=>e=.returned (.agg #[.int .i64 xa.T,.int .i64 xa.O])/\N w')/\Hid (∀w2,N w2->mC w0 w2 ha hb xa xb)):=hd (fun w1 o=>by
  obtain ⟨U1,U2,s1,c1,s2,c2,T1⟩:=T.left o;have:=JU T1.b;rw [eT,eO]at this
  exact ⟨_,this,hd (fun w2 o2=>T1.right o2)⟩)
 obtain ⟨X,hX⟩:=Haa (View.xH (qD ha.c) a (zC xa.m))
 have H2:Hid (∀w2,mC w0 w2 ha hb xa xb->Calls prog 35 #[.pointer (some ⟨ha.bh,0,none⟩),.int .u64 (a:Int)] w2 (Kh w2 X)/\Calls prog 35 #[.pointer (some ⟨hb.bh,0,none⟩),.int .u64 (a:Int)] w2 (Kh w2 X)):=hd (fun w2 P2=>by
  obtain ⟨U1,U2,s1,c1,s2,c2,T2⟩:=P2;have k1:=Uz T2.a sA cA dA fA a jA;have k2:=Uz T2.b sB cB dB fB a jA;rw [hX.out]at k1;rw [eX,hX.out]at k2
  exact ⟨k1,k2⟩)
 obtain ⟨Q,hQ⟩:∃Q:World->Prop,Hid (∀w',Q w'=mC w0 w' ha hb xa xb):=⟨fun w'=>mC w0 w' ha hb xa xb,fun _=>rfl⟩
 have H3:Hid (∀w3 I7 Dy w4 w5,mC w0 w3 ha hb xa xb->Below w3.heap.size w3 w4->View.sE w4 I7 X->View.sE w5 Dy X->Below w4.heap.size w4 w5->Calls prog 34 #[.agg I7.toArray,.agg Dy.toArray] w5 (fun e w'=>e=.returned (.bool true)/\Hid (mC w0 w' ha hb xa xb))):=hd (fun w3 I7 Dy w4 w5 P3 b1 h1 h2 b2=>by
  refine (View.same_any (View.sE.below b2 h1) h2).mono fun e w' he=>⟨he.1,hd (((P3.au b1).au b2).au he.2)⟩)
 obtain ⟨N1,iz⟩:∃N:World->Prop,Hid (cU w ha Ua xa=N):=⟨_,rfl⟩;rw [iz.out]at Mq H1;generalize xa.T=T0 at*
 generalize xa.O=O0 at*
 obtain ⟨ba,fe⟩:=Haa ha.bh;obtain ⟨bb,fZ⟩:=Haa hb.bh;rw [fe.out]at Mq H2;rw [fZ.out]at H1 H2;rw [fe.out,fZ.out];clear P T sA sB cA cB dA dB fA fB eT eO eX hX iz;go_enter func19,ntmps19
 go_wp2_with (first
  |(go_at_call 22;(with_reducible refine Mq.mono ?_);rintro e w1 ⟨rfl,ho⟩;clear Mq;obtain ⟨N,qo,Z_⟩:=H1.out w1 ho;clear H1 ho)
  |(go_at_call 22;(with_reducible refine qo.mono ?_);rintro e w2 ⟨rfl,ho⟩;clear qo;have P2:=hd (Z_.out w2 ho);clear Z_ ho;have zD:=(H2.out w2 P2.out).1)
  |(go_at_call 35;(with_reducible refine zD.mono ?_);rintro e w3 ⟨I7,rfl,X1,B1⟩;clear zD;replace X1:=hd X1;replace B1:=hd B1;have hsb:=(H2.out w3 (P2.out.au B1.out)).2;clear H2)
  |(go_at_call 35;(with_reducible refine hsb.mono ?_);rintro e w4 ⟨Dy,rfl,X2,B2⟩;clear hsb;have Rl:=H3.out w2 I7 Dy w3 w4 P2.out B1.out X1.out X2 B2;clear H3 X1 B1 X2 B2 P2)
  |(go_at_call 34;(with_reducible refine Rl.mono ?_);rintro e w5 ⟨rfl,P5⟩;clear Rl))
 go_ret;exact ⟨rfl,P5.out⟩
end
end Go.Proofs.YthopnfbjiifhhaaGreatDoor
