/- The law's example: a config. -/
import Derived.Test.YthopnfbjiifhhaaGreatDoorGMj
import Derived.Test.YthopnfbjiifhhaaGreatDoorGNd
import Derived.Laws.EntriesVeiled
set_option maxHeartbeats 4000000
set_option maxRecDepth 100000
namespace Go.Proofs.YthopnfbjiifhhaaGreatDoor
open Go.RowKit Go.Proofs.Tryz
def iZ(c:ak):Nat->MS->MS
 |0,m=>m
 |n+1,m=>iZ c n (rX c m)
def mH(c:ak):Nat->MS->Int->Int
 |0,_,o=>o
 |n+1,m,_=>mH c n (rX c m) (pQ c m:Int)
open Go.RowKit Go.Sort Go.Shelf Go.Maps
def LZ(v:Value):Option (DataW Value×List MemPlace):=some (.held v,[])
def rK(k:Nat):Value:=.func (.func k) #[] #[]
def Zt:DataW Value:=.map []
def Dn:DataW Value:=Zt.put (.int .i64 1) (.held (rK 75))
def L3:DataW Value:=Dn.put (.int .i64 2) (.held (rK 76))
def E9:DataW Value:=L3.put (.int .i64 3) (.held (rK 77))
def Bh(w:World)(b:Nat):Prop:=∃n,w.ownsMap prog 3 LZ b n E9
variable{W:World}{b:Nat}
theorem MH{w w':World}{row:Option Nat}(h:w.grownBy w' row):Mod (fun k=>row=some k) w w':=⟨h.os,h.tape,h.output,h.size,fun k hk hn=>h.block k hk (fun e=>hn e.symm)⟩
theorem KB(n:Int)(h1:-9223372036854775808<=n)(h2:n<=9223372036854775807):keyOf prog 3 (.int .i64 n)=some (.int .i64 n):=aZ.vX ⟨h1,h2⟩
theorem Jq(w:World):Calls prog 55 #[] w fun e w'=>∃b,e=.returned (.map (some b))/\Bh w' b/\Below w.heap.size w w':=by
 have fQ:(Instr.makeMap 121 none).run prog w=.ok (.map (some w.heap.size)) (w.alloc (.map #[] 0)):=rfl;have o0:(w.alloc (.map #[] 0)).ownsMap prog 3 LZ w.heap.size 0 Zt:=World.ownsMap_made w prog 3 LZ;have ai:=aA w (.map #[] 0);obtain ⟨B,hB⟩:=Haa w.heap.size;obtain ⟨W0,aD⟩:=Haa (w.alloc (.map #[] 0));rw [aD.out]at fQ o0 ai;rw [hB.out]at fQ o0;obtain ⟨W1,r1,o1,t1⟩:=o0.store aZ.ng underlying121 (by unfold maxLen;omega) (KB 1 (by omega) (by omega)) (val:=rK 75) rfl;obtain ⟨W2,r2,o2,t2⟩:=o1.store aZ.ng underlying121 (by unfold maxLen;omega) (KB 2 (by omega) (by omega)) (val:=rK 76) rfl;obtain ⟨W3,r3,o3,t3⟩:=o2.store aZ.ng underlying121 (by unfold maxLen;omega) (KB 3 (by omega) (by omega)) (val:=rK 77) rfl;have m1:=(MH t1.grown).trans (MH t2.grown) (fun _ h=> .inl h);have m2:=m1.trans (MH t3.grown) (fun _ h=> .inl h);have m3:=(Mod.aS (fun _=>False) ai).trans m2 (fun k h=> .inr (by have:=aau h;rw [hB.out];omega));have HE:Hid (∃b,Ending.returned (.map (some B))=.returned (.map (some b))/\Bh W3 b/\Below w.heap.size w W3):=hd ⟨B,rfl,⟨_,o3⟩,m3.below (aag _) (fun _ _ h=>h.elim)⟩;unfold rK at r1 r2 r3;clear o0 o1 o2 o3 t1 t2 t3 m1 m2 m3 ai hB aD;go_enter func55,ntmps55;go_wp2_with fail;go_ret;exact HE.out
theorem Bh.look(h:Bh W b){n:Int}{v:Value}{is:Bool}(h1:-9223372036854775808<=n)(h2:n<=9223372036854775807)(ha:E9.atKey (.int .i64 n) (.held .nilFunc)=.held v)(hi:Maps.has E9 (.int .i64 n)=is):
 (Instr.lookup 121 (.map (some b)) (.int .i64 n) true).run prog W=.ok (.tuple #[v,.bool is]) W:=by
 obtain ⟨k,h⟩:=h;obtain ⟨x,ps,e1,e2⟩:=h.look_ok aZ.ng underlying121 (z:=.nilFunc) (zd:=.held .nilFunc) (zp:=[]) (zeroValue119 W) rfl (KB n h1 h2);rw [ha]at e2;rw [hi]at e1;have:x=v:=by
  unfold LZ at e2;have:=(Prod.mk.inj (aau e2)).1
  cases this
  rfl
 rw [this]at e1;exact e1
theorem look_tick(h:Bh W b):(Instr.lookup 121 (.map (some b)) (.int .i64 1) true).run prog W=.ok (.tuple #[rK 75,.bool true]) W:=h.look (by omega) (by omega) (by kernel_rfl) (by kernel_rfl)
theorem look_inject(h:Bh W b):(Instr.lookup 121 (.map (some b)) (.int .i64 2) true).run prog W=.ok (.tuple #[rK 76,.bool true]) W:=h.look (by omega) (by omega) (by kernel_rfl) (by kernel_rfl)
theorem look_kill(h:Bh W b):(Instr.lookup 121 (.map (some b)) (.int .i64 3) true).run prog W=.ok (.tuple #[rK 77,.bool true]) W:=h.look (by omega) (by omega) (by kernel_rfl) (by kernel_rfl)
theorem look_none(h:Bh W b):(Instr.lookup 121 (.map (some b)) (.int .i64 0) true).run prog W=.ok (.tuple #[.nilFunc,.bool false]) W:=h.look (by omega) (by omega) (by kernel_rfl) (by kernel_rfl)
structure dF(w:World)(br:Nat)(l:Lay)(U:Nat->Prop)(m:MS)(T O:Int):Prop where
 obj:w.heap[br]?=some (.cells #[.pointer (some ⟨l.bm,0,none⟩),.int .i64 T,.int .i64 O] 104 (0,0))
 kk:Mk w l U m
 nu:¬U br
 nk:¬l.K br
section
variable{w w':World} {br:Nat} {l:Lay} {U:Nat->Prop} {m m':MS} {T O T' O':Int}
theorem dF.lt(h:dF w br l U m T O):br<w.heap.size:=(aab.1 h.obj).1
theorem dF.c0(h:dF w br l U m T O):w.cell? ⟨br,0,none⟩=some (.pointer (some ⟨l.bm,0,none⟩)):=aaa _ _ _ _ _ _ h.obj
theorem dF.c1(h:dF w br l U m T O):w.cell? ⟨br,1,none⟩=some (.int .i64 T):=aaa _ _ _ _ _ _ h.obj
theorem dF.c2(h:dF w br l U m T O):w.cell? ⟨br,2,none⟩=some (.int .i64 O):=aaa _ _ _ _ _ _ h.obj
theorem dF.fr(h:dF w br l U m T O)(i:Nat):w.frozen? ⟨br,i,none⟩=false:=by simp [World.frozen?,h.obj]
theorem dF.below(h:dF w br l U m T O)(hb:Below w.heap.size w w'):dF w' br l U m T O:=⟨by rw [hb.block br h.lt];exact h.obj,h.kk.below hb,h.nu,h.nk⟩
theorem dF.on(h:dF w br l U m T O)(ho:dm w l U m' w'):∃U',To w U w' U'/\dF w' br l U' m' T O:=by
 obtain ⟨U',t,k⟩:=ho.get;refine ⟨U',t,⟨by rw [t.1.block br h.lt h.nu];exact h.obj,k,fun e=> ?_,h.nk⟩⟩;rcases t.2 br e with h1|h1
 ·exact h.nu h1
 ·have:=h.lt;omega
theorem dF.lI(h:dF w br l U m T O)(T':Int):dF (w.setCell ⟨br,1,none⟩ (.int .i64 T')) br l U m T' O:=
 ⟨by rw [aU h.obj];rfl,h.kk.mod (dP w br 1 _) (fun k hk e=>h.nu (by rw [<-e];exact hk)) (fun k hk e=>h.nk (by rw [<-e];exact hk)),h.nu,h.nk⟩
theorem dF.tS(h:dF w br l U m T O)(O':Int):dF (w.setCell ⟨br,2,none⟩ (.int .i64 O')) br l U m T O':=
 ⟨by rw [aU h.obj];rfl,h.kk.mod (dP w br 2 _) (fun k hk e=>h.nu (by rw [<-e];exact hk)) (fun k hk e=>h.nk (by rw [<-e];exact hk)),h.nu,h.nk⟩
def bJ(w:World)(br:Nat)(l:Lay)(U:Nat->Prop)(m':MS)(T' O':Int)(w':World):Prop:=Mod (fun k=>U k\/k=br) w w'/\∃U',dF w' br l U' m' T' O'/\∀k,U' k->U k\/w.heap.size<=k
theorem bJ.refl(h:dF w br l U m T O):bJ w br l U m T O w:=⟨Mod.refl _ _,U,h,fun _ h=> .inl h⟩
theorem bJ.via{dR:World}{IB:MS}{IC ID:Int}{U':Nat->Prop}(a:Mod (fun k=>U k\/k=br) w w')(c:∀k,U' k->U k\/w.heap.size<=k)(h2:bJ w' br l U' IB IC ID dR):bJ w br l U IB IC ID dR:=by
 obtain ⟨d,U2,e,f⟩:=h2;refine ⟨a.trans d (fun k hk=> ?_),U2,e,fun k hk=> ?_⟩
 ·rcases hk with h|h
  ·rcases c k h with h1|h1
   ·exact .inl (.inl h1)
   ·exact .inr h1
  ·exact .inl (.inr h)
 ·rcases f k hk with h|h
  ·exact c k h
  ·exact .inr (aai a.size h)
theorem bJ.trans{dR:World}{IB:MS}{IC ID:Int}(h:bJ w br l U m' T' O' w')(h2:∀U',dF w' br l U' m' T' O'->bJ w' br l U' IB IC ID dR):bJ w br l U IB IC ID dR:=by
 obtain ⟨a,U',b,c⟩:=h;exact bJ.via a c (h2 U' b)
theorem bJ.after{dR:World}(h:bJ w br l U m' T' O' w')(hb:Below w'.heap.size w' dR):bJ w br l U m' T' O' dR:=h.trans fun U' hk=>⟨Mod.aS _ hb,U',hk.below hb,fun _ h=> .inl h⟩
theorem bJ.ahead{w0:World}(hb:Below w0.heap.size w0 w)(h:bJ w br l U m' T' O' w'):bJ w0 br l U m' T' O' w':=by
 obtain ⟨a,U',b,c⟩:=h;refine ⟨(Mod.aS _ hb).trans a (fun k hk=> .inl hk),U',b,fun k hk=> ?_⟩;rcases c k hk with h|h
 ·exact .inl h
 ·exact .inr (aai hb.size h)
theorem dF.slot(h:dF w br l U m T O)(ho:dm w l U m' w')(O':Int):bJ w br l U m' T O' (w'.setCell ⟨br,2,none⟩ (.int .i64 O')):=by
 obtain ⟨U',t,k⟩:=h.on ho;exact ⟨(t.1.mono (fun k _ hk=> .inl hk)).setCell (.inl (.inr rfl)) _,U',k.tS O',t.2⟩
theorem bJ.lI(h:bJ w br l U m T O w')(T':Int):bJ w br l U m T' O (w'.setCell ⟨br,1,none⟩ (.int .i64 T')):=
 h.trans fun U' k=>⟨(Mod.refl _ _).setCell (.inl (.inr rfl)) _,U',k.lI T',fun _ h=> .inl h⟩
end
theorem aG.iZ{c:ak}(hc:dK c):∀(n:Nat) {m:MS},aG c m->aG c (iZ c n m)
 |0,_,h=>h
 |n+1,_,h=>aG.iZ hc n (h.ticks hc)
theorem TS(c:ak)(i:Nat):∀(f:Nat) (m:MS),(pU c i f m).tick=m.tick
 |0,_=>rfl
 |f+1,m=>by
  rw [pU];split
  ·rfl
  ·rw [TS c i f,TK];rfl
theorem TT:∀(L:List Nat) (m:MS),(lF m L).tick=m.tick
 |[],_=>rfl
 |q::r,m=>(TT r (m.bM q (Ap m.tick))).trans rfl
theorem tickM_tick(c:ak)(m:MS):(rX c m).tick=m.tick+1:=by
 unfold rX;simp only [TS,TT]
theorem Ut(c:ak):∀(n:Nat) (m:MS),iZ c (n+1) m=rX c (iZ c n m)
 |0,_=>rfl
 |n+1,m=>Ut c n (rX c m)
theorem Uu(c:ak):∀(n:Nat) (m:MS) (o:Int),mH c (n+1) m o=(pQ c (iZ c n m):Int)
 |0,_,_=>rfl
 |n+1,m,_=>Uu c n (rX c m) (pQ c m:Int)
theorem Uv(c:ak):∀(n:Nat) (m:MS),(iZ c n m).tick=m.tick+(n:Int)
 |0,m=>(Int.add_zero _).symm
 |n+1,m=>by
  rw [iZ,Uv c n,tickM_tick];omega
section
variable{w:World} {br:Nat} {l:Lay} {U:Nat->Prop} {m:MS} {T O:Int}
theorem rtick_any(h:dF w br l U m T O)(hs:aG l.c m)(hc:dK l.c)(n:Nat)(k v:Int)(h1:1<=n)(Bc:0<=T)(hT:T+n<=65536)(ht:m.tick<=65536):
 Calls prog 75 #[.pointer (some ⟨br,0,none⟩),.agg #[.int .i64 k,.int .i64 n,.int .i64 v]] w fun e w'=>e=.returned (.int .i64 0)/\bJ w br l U (iZ l.c n m) (T+n) (mH l.c n m O) w':=by
 have ai:=aA w (.cells #[.int .i64 k,.int .i64 n,.int .i64 v] 32);have hx:=aae w (.cells #[.int .i64 k,.int .i64 n,.int .i64 v] 32);have QZ:=hs.t0;obtain ⟨W0,aD⟩:=Haa (w.alloc (.cells #[.int .i64 k,.int .i64 n,.int .i64 v] 32));rw [aD.out]at ai hx;obtain ⟨bx,aT⟩:=Haa w.heap.size;have h0:=h.below ai;have bC:¬(U bx\/bx=br):=by
  rintro (e|e)
  ·have:=h.kk.lt bx e;have:=aT.out;omega
  ·have:=h.lt;have:=aT.out;omega
 rw [aT.out]at hx
 have HX:Hid (∀W m' T' O',bJ W0 br l U m' T' O' W->W.cell? ⟨bx,1,none⟩=some (.int .i64 n)):=hd (fun W m' T' O' ho=>by
  have e:=ho.1.block bx (aab.1 hx).1 bC;rw [aaa _ _ _ _ _ _ (e.trans hx)]
  rfl)
 have E_:Hid (∀d,bJ W0 br l U m T O (W0.drewN d)):=hd (fun d=>(bJ.refl h0).after (ck W0 d));have a1:=HX.out _ _ _ _ (bJ.refl h0);have c1:=h0.c1;have aX:=hd ai;have HS:=hd hs;have HC:=hd hc;have HT:=hd ht;have mo:decide ((n:Int)<1)=false:=by simp;omega
 have mQ:(n:Int)<=65536-T:=by omega
 have hn3:decide (65536-T<(n:Int))=false:=by simp;omega
 clear h hs hc ai hx h0 bC ht;obtain ⟨Q,hQ⟩:∃Q:World->Prop,Hid (bJ w br l U (iZ l.c n m) (T+n) (mH l.c n m O)=Q):=⟨_,rfl⟩;rw [hQ.out];go_enter func75,ntmps75;go_upto_region 1 with fail;rw [aD.out,aT.out];go_upto_region 3 with fail;go_quiet (fail)
 have vD:=hd (E_.out nq);have a2:=HX.out _ _ _ _ vD.out;clear c1 a1 E_;go_wp2_with fail;clear a2;go_loopg [18] n (fun g v18 wr=>∃i:Nat,v18=.int .i64 (i:Int)/\i+g=n/\Hid (bJ W0 br l U (iZ l.c i m) T (mH l.c i m O) wr))
 case atStart=>exact ⟨0,rfl,by omega,vD⟩
 case round=>
  obtain ⟨i,rfl,jr,HI⟩:=hrel;clear vD;by_cases af:i<n
  ·have fI:(i:Int)<(n:Int):=by omega
   obtain ⟨hm,U1,k1,hu⟩:=HI.out;have Zu:=aG.iZ HC.out i HS.out;have jN:=tick_m k1.kk Zu HC.out (by rw [Uv];have:=HT.out;omega);have c0:=k1.c0;rw [<-Ut]at jN
   have HN:Hid (∀w2,dm wr l U1 (iZ l.c (i+1) m) w2->(∃o,w2.cell? ⟨br,2,none⟩=some o)/\w2.frozen? ⟨br,2,none⟩=false/\Hid (bJ W0 br l U (iZ l.c (i+1) m) T (mH l.c (i+1) m O) (w2.setCell ⟨br,2,none⟩ (.int .i64 (pQ l.c (iZ l.c i m):Int))))):=hd (fun w2 ho=>by
    obtain ⟨U2,t2,k2⟩:=k1.on ho;refine ⟨⟨_,k2.c2⟩,k2.fr 2,hd ?_⟩;rw [Uu]
    exact bJ.via hm hu (k1.slot ho _))
   obtain ⟨p,hp⟩:=Haa (pQ l.c (iZ l.c i m));rw [hp.out]at jN HN;obtain ⟨N,hN⟩:∃N:World->Prop,Hid (dm wr l U1 (iZ l.c (i+1) m)=N):=⟨_,rfl⟩;rw [hN.out]at jN HN;clear hm k1 hu Zu HI hN;go_upto_region 7 with fail;go_wp2_with (go_at_call 107;(with_reducible refine jN.mono ?_);rintro e w2 ⟨rfl,ho⟩;obtain ⟨⟨o,d2⟩,df,HO⟩:=HN.out w2 ho;clear jN);go_roundg (gk-1)
   case rel=>exact ⟨i+1,by go_num,by omega,HO⟩
   case measure=>omega
  ·obtain rfl:i=n:=by omega
   obtain ⟨hm,U1,k1,hu⟩:=HI.out;have c1:=k1.c1;have cf:=k1.fr 1;have a1:=HX.out _ _ _ _ HI.out;have HO:Hid (∀d,bJ w br l U (iZ l.c i m) (T+i) (mH l.c i m O) ((wr.drewN d).setCell ⟨br,1,none⟩ (.int .i64 (T+i)))):=hd (fun d=>bJ.ahead aX.out (bJ.lI (HI.out.after (ck wr d)) _));rw [hQ.out]at HO;clear hm k1 hu HI hQ HX;go_upto_region 9 with fail;go_region
   all_goals (
    go_wp2_with fail;go_ret
    exact ⟨rfl,HO.out 1⟩)
end
def Gu(w:World)(c:ak)(E:Ending)(w':World):Prop:=∃br l U,E=.returned (.tuple #[.pointer (some ⟨br,0,none⟩),.int .i64 0,.int .i64 0])/\dF w' br l U (firstM c) 0 (-1)/\l.c=c/\(∀k,U k->w.heap.size<=k)/\w.heap.size<=br/\(∀k,l.K k->w.heap.size<=k\/k=1\/k=0)/\Below w.heap.size w w'
theorem boot_ok(c:ak)(a:Option Addr)(n cap:Nat)(bs:List Nat)(w:World)(hn:bs.length=n)(hR:Rd w a (eA bs))(hb:rZ bs)(iP:n<=cap)(hF:bR w)(hL:eQ w)(qT:qI bs=(c,0,0))(hm:(jt c).1=0)(sr:∀x∈c.labels,x<18446744073709551616)(hj:∀p,p<c.procs.length->eZ.yH (cd c p)):
 Calls prog 33 #[.slice a n cap] w (Gu w c):=by
 have KC:=cdecode_any a cap bs w hR hb (by omega) hF hL;rw [hn]at KC;have HF:=hd hF;have HL:=hd hL
 have HD:Hid (∀e w',Ge w bs e w'->∃g,e=.returned (.tuple #[ct c g,.int .i64 0,.int .i64 0])/\Hid (fD w' c g/\Below w.heap.size w w')):=hd (by
  rintro e w' ⟨g,rfl,h2,h3⟩;rw [qT]at h2⊢
  exact ⟨g,rfl,hd ⟨h2.rd,h3⟩⟩)
 have Bi:Hid (∀W g,fD W c g->Below w.heap.size w W->Calls prog 48 #[ct c g] W (Gt W c)):=hd (fun W g hr hb=>new_ok c g W hr (bR.mod HF.out (Mod.aS (fun _=>False) hb) (fun h=>h)) (eQ.mod HL.out (Mod.aS (fun _=>False) hb) (fun h=>h)) hm sr hj);obtain ⟨N,hN⟩:∃N:Ending->World->Prop,Hid (Ge w bs=N):=⟨_,rfl⟩;obtain ⟨Q,hQ⟩:=Haa (Gu w c);rw [hN.out]at KC HD;rw [hQ.out]
 have HE:Hid (∀(W:World) e W',Below w.heap.size w W->Gt W c e W'->∃bm,e=.returned (.tuple #[.pointer (some ⟨bm,0,none⟩),.int .i64 0])/\Hid (Q (.returned (.tuple #[.pointer (some ⟨W'.heap.size,0,none⟩),.int .i64 0,.int .i64 0])) (W'.alloc (.cells #[.pointer (some ⟨bm,0,none⟩),.int .i64 0,.int .i64 (-1)] 104)))):=hd (by
  rintro W e W' hb ⟨l,U,rfl,k1,k2,k3,k4,k5⟩;refine ⟨l.bm,rfl,hd ?_⟩;rw [<-hQ.out];have aI:=hb.trans (k5.mono hb.size);have eH:=aA W' (.cells #[.pointer (some ⟨l.bm,0,none⟩),.int .i64 0,.int .i64 (-1)] 104);refine ⟨W'.heap.size,l,U,rfl,⟨aae W' _,k1.below eH,fun e=> ?_,fun e=> ?_⟩,k2,fun k hk=>aai hb.size (k3 k hk),aI.size,fun k hk=> ?_,aI.trans (eH.mono aI.size)⟩
  ·have:=k1.lt _ e;omega
  ·have:=k1.base.mV _ e;omega
  ·rcases k4 k hk with e|e
   ·exact .inl (aai hb.size e)
   ·exact .inr e)
 clear hR hb iP hF hL qT hm sr hj hn hN hQ HF HL;go_enter func33,ntmps33;go_upto_region 1 with fail
 go_wp2_with (first
  |(go_at_call 47;(with_reducible refine KC.mono ?_);rintro e w1 he;obtain ⟨g,rfl,H1⟩:=HD.out e w1 he;clear he KC HD;have aH:=H1.out.2.trans ((aA w1 (.cells (a_ c g) 26)).mono H1.out.2.size);have qi:=Bi.out (w1.alloc (.cells (a_ c g) 26)) g (H1.out.1.below (aA _ _)) aH;replace HE:=hd (fun e W' h=>HE.out _ e W' aH h);obtain ⟨N,hN⟩:∃N:Ending->World->Prop,Hid (Gt (w1.alloc (.cells (a_ c g) 26)) c=N):=⟨_,rfl⟩;rw [hN.out]at qi HE;unfold ct a_ at qi;clear hN Bi H1 aH;unfold ct a_)
  |(go_at_call 48;(with_reducible refine qi.mono ?_);rintro e w2 he;obtain ⟨bm,rfl,HO⟩:=HE.out e w2 he;clear he qi HE))
 go_ret3
 exact HO.out
theorem dF.same{w w':World}{br:Nat}{l:Lay}{U:Nat->Prop}{m:MS}{T O:Int}(h:dF w br l U m T O)(hb:Below w.heap.size w w'):bJ w br l U m T O w':=(bJ.refl h).after hb
def yh(e T O:Int):Value:=.agg #[.int .i64 e,.int .i64 T,.int .i64 O]
section
variable{w:World} {br:Nat} {l:Lay} {U:Nat->Prop} {m:MS} {T O:Int}
theorem rkill_no(h:dF w br l U m T O)(k p v:Int)(e1:eG l.c m p≠0):
 Calls prog 77 #[.pointer (some ⟨br,0,none⟩),.agg #[.int .i64 k,.int .i64 p,.int .i64 v]] w fun e w'=>e=.returned (.int .i64 (eG l.c m p))/\Below w.heap.size w w':=by
 have ai:=aA w (.cells #[.int .i64 k,.int .i64 p,.int .i64 v] 32);have hx:=aae w (.cells #[.int .i64 k,.int .i64 p,.int .i64 v] 32);obtain ⟨W0,aD⟩:=Haa (w.alloc (.cells #[.int .i64 k,.int .i64 p,.int .i64 v] 32));rw [aD.out]at ai hx;have h0:=h.below ai;have c0:=h0.c0;have Iw:=fun d=>(kill_no (h0.below (ck W0 d)).kk p e1).mono fun e w' (h:e=_/\_=w')=>And.intro h.1 h.2.symm
 have a1:W0.cell? ⟨w.heap.size,1,none⟩=some (.int .i64 p):=by rw [aaa _ _ _ _ _ _ hx];rfl
 have HB:Hid (∀d,Below w.heap.size w (W0.drewN d)):=hd (fun d=>ai.trans ((ck W0 d).mono ai.size));generalize eG l.c m p=E at*
 clear h h0 e1 ai hx;go_enter func77,ntmps77;go_upto_region 1 with fail;rw [aD.out];clear aD;go_quiet (first|(go_at_call 109;exact Calls.quiet_of_same (Iw _)))
 go_wp2_with fail;go_ret;exact ⟨rfl,HB.out _⟩
theorem rinject_no(h:dF w br l U m T O)(k p v:Int)(e1:eG l.c m p≠0):
 Calls prog 76 #[.pointer (some ⟨br,0,none⟩),.agg #[.int .i64 k,.int .i64 p,.int .i64 v]] w fun e w'=>e=.returned (.int .i64 (eG l.c m p))/\Below w.heap.size w w':=by
 have ai:=aA w (.cells #[.int .i64 k,.int .i64 p,.int .i64 v] 32);have hx:=aae w (.cells #[.int .i64 k,.int .i64 p,.int .i64 v] 32);obtain ⟨W0,aD⟩:=Haa (w.alloc (.cells #[.int .i64 k,.int .i64 p,.int .i64 v] 32));rw [aD.out]at ai hx;have h0:=h.below ai;have c0:=h0.c0;have Iw:=fun d=>(inject_no (h0.below (ck W0 d)).kk p v e1).mono fun e w' (h:e=_/\_=w')=>And.intro h.1 h.2.symm
 have a1:W0.cell? ⟨w.heap.size,1,none⟩=some (.int .i64 p):=by rw [aaa _ _ _ _ _ _ hx];rfl
 have a2:W0.cell? ⟨w.heap.size,2,none⟩=some (.int .i64 v):=by rw [aaa _ _ _ _ _ _ hx];rfl
 have HB:Hid (∀d,Below w.heap.size w (W0.drewN d)):=hd (fun d=>ai.trans ((ck W0 d).mono ai.size));generalize eG l.c m p=E at*
 clear h h0 e1 ai hx;go_enter func76,ntmps76;go_upto_region 1 with fail;rw [aD.out];clear aD;go_quiet (first|(go_at_call 108;exact Calls.quiet_of_same (Iw _)))
 go_wp2_with fail;go_ret;exact ⟨rfl,HB.out _⟩
end
section
variable{w w' W W' W2:World} {br b2:Nat} {l:Lay} {U:Nat->Prop} {m m':MS} {T O T' O':Int}
theorem bJ.fin(h:dF w br l U m T O)(hb:Below w.heap.size w W)(ho:bJ W br l U m' T' O' W')(h2:w.heap.size<=b2)(h3:b2<W.heap.size)(hm:Mod (fun k=>k=b2) W' W2):bJ w br l U m' T' O' W2:=by
 obtain ⟨a,U',k,c⟩:=bJ.ahead hb ho;obtain ⟨om,V,o1,o2⟩:=ho;have af:=h.lt;have hnV:¬V b2:=fun e=>by
  rcases o2 b2 e with h1|h1
  ·have:=h.kk.lt b2 h1;omega
  ·omega
 have hnK:¬l.K b2:=fun e=>by
  have:=h.kk.base.mV b2 e;omega
 refine ⟨a.trans hm (fun k e=> .inr (by rw [e];exact h2)),V,⟨(hm.block br o1.lt (fun e=>by omega)).trans o1.obj,o1.kk.mod hm (fun k hk e=>hnV (by rw [<-e];exact hk)) (fun k hk e=>hnK (by rw [<-e];exact hk)),o1.nu,o1.nk⟩,fun k hk=> ?_⟩;rcases o2 k hk with e|e
 ·exact .inl e
 ·exact .inr (aai hb.size e)
theorem KD{W:World}{b:Nat}{t:TypeId}{x0 x1 x2:Value}(h:W.heap[b]?=some (.cells #[x0,x1,x2] t (0,0)))(u0 u1 u2:Value):(((W.setCell ⟨b,0,none⟩ u0).setCell ⟨b,1,none⟩ u1).setCell ⟨b,2,none⟩ u2).heap[b]?=some (.cells #[u0,u1,u2] t (0,0)):=by
 rw [aU (aU (aU h _) _)];rfl
theorem do_tick(h:dF w br l U m T O)(hs:aG l.c m)(hc:dK l.c)(n:Nat)(v:Int)(h1:1<=n)(Bc:0<=T)(hT:T+n<=65536)(ht:m.tick<=65536):
 Calls prog 36 #[.pointer (some ⟨br,0,none⟩),.agg #[.int .i64 1,.int .i64 n,.int .i64 v]] w fun e w'=>e=.returned (yh 0 (T+n) (mH l.c n m O))/\bJ w br l U (iZ l.c n m) (T+n) (mH l.c n m O) w':=by
 have ai:=aA w (.cells #[.int .i64 1,.int .i64 n,.int .i64 v] 32);have hx:=aae w (.cells #[.int .i64 1,.int .i64 n,.int .i64 v] 32);obtain ⟨W0,aD⟩:=Haa (w.alloc (.cells #[.int .i64 1,.int .i64 n,.int .i64 v] 32));rw [aD.out]at ai hx;have aH:=aA W0 (.cells #[.int .i64 0,.int .i64 0,.int .i64 0] 81);have hy:=aae W0 (.cells #[.int .i64 0,.int .i64 0,.int .i64 0] 81);obtain ⟨W1,bS⟩:=Haa (W0.alloc (.cells #[.int .i64 0,.int .i64 0,.int .i64 0] 81));rw [bS.out]at aH hy;have bu:W0.heap.size=w.heap.size+1:=by rw [<-aD.out];simp
 have aI:=ai.trans (aH.mono ai.size);have jZ:=Jq W1.drew;have af:=h.lt;rw [bu]at hy;obtain ⟨bx,aT⟩:=Haa w.heap.size;rw [aT.out]at hx hy bu af;have jJ:=(aH.block bx (by omega)).trans hx;obtain ⟨b2,kp⟩:=Haa (bx+1);rw [kp.out]at hy
 have HA:Hid (∀W,Below W1.drew.heap.size W1.drew W->Hid (dF W br l U m T O)/\W.cell? ⟨bx,0,none⟩=some (.int .i64 1)/\W.cell? ⟨bx,1,none⟩=some (.int .i64 n)/\W.cell? ⟨bx,2,none⟩=some (.int .i64 v)/\Hid (W.heap[b2]?=some (.cells #[.int .i64 0,.int .i64 0,.int .i64 0] 81 (0,0)))):=hd (fun W hb=>by
  have kq:Below W1.heap.size W1 W:=cC hb;have mB:=(kq.block bx (by have:=aH.size;omega)).trans jJ;have zm:=(kq.block b2 (aab.1 hy).1).trans hy
  exact ⟨hd ((h.below aI).below kq),aaa _ _ _ _ _ _ mB,aaa _ _ _ _ _ _ mB,aaa _ _ _ _ _ _ mB,hd zm⟩)
 have HE:Hid (∀(W W':World),Below W1.drew.heap.size W1.drew W->bJ W br l U (iZ l.c n m) (T+n) (mH l.c n m O) W'->W'.cell? ⟨br,1,none⟩=some (.int .i64 (T+n))/\W'.cell? ⟨br,2,none⟩=some (.int .i64 (mH l.c n m O))/\Hid (W'.heap[b2]?=some (.cells #[.int .i64 0,.int .i64 0,.int .i64 0] 81 (0,0)))/\Hid (∀W2,Mod (fun k=>k=b2) W' W2->bJ w br l U (iZ l.c n m) (T+n) (mH l.c n m O) W2)):=hd (fun W W' hb ho=>by
  have vM:=(HA.out W hb).2.2.2.2.out;have aj:Below w.heap.size w W:=aI.trans ((cC hb).mono aI.size);have iK:b2<W.heap.size:=(aab.1 vM).1;obtain ⟨om,U',o1,o2⟩:=id ho;have qo:¬(U b2\/b2=br):=fun e=>by
   have:=kp.out;rcases e with e|e
   ·have:=h.kk.lt b2 e;have:=aT.out;omega
   ·omega
  exact ⟨o1.c1,o1.c2,hd ((om.block b2 iK qo).trans vM),hd (fun W2 hm=>bJ.fin h aj ho (by have:=kp.out;have:=aT.out;omega) iK hm)⟩)
 have HC:Hid (∀W,dF W br l U m T O->Calls prog 75 #[.pointer (some ⟨br,0,none⟩),.agg #[.int .i64 1,.int .i64 n,.int .i64 v]] W fun e w'=>e=.returned (.int .i64 0)/\bJ W br l U (iZ l.c n m) (T+n) (mH l.c n m O) w'):=hd (fun W h=>rtick_any h hs hc n 1 v h1 Bc hT ht);obtain ⟨Q,hQ⟩:∃Q:World->Prop,Hid (bJ w br l U (iZ l.c n m) (T+n) (mH l.c n m O)=Q):=⟨_,rfl⟩;rw [hQ.out]at HE⊢;have nQ:¬b2=br:=by
  have:=kp.out;omega
 unfold yh;have z0:=(HA.out W1.drew (aak _ _)).2.1;clear h ai hx aH hy aI jJ bu hs hc h1 Bc hT ht;go_enter func36,ntmps36;go_upto_region 2 with fail;rw [aD.out,bS.out,aT.out,kp.out];clear aD bS;have x0:W1.cell? ⟨bx,0,none⟩=some (.int .i64 1):=z0;go_region_law (first|(go_simp;(with_reducible refine jZ.mono ?_);rintro e w2 ⟨bd,rfl,hD,bH⟩;clear jZ;have iL:=look_tick hD;obtain ⟨HR,y0,y1,y2,y3⟩:=HA.out w2 bH;replace bH:=hd bH;unfold rK at iL))
 all_goals (
  have bZ:=HC.out w2 HR.out;have nS:=hd (fun W' h=>HE.out w2 W' bH.out h);obtain ⟨N,hN⟩:∃N:World->Prop,Hid (bJ w2 br l U (iZ l.c n m) (T+n) (mH l.c n m O)=N):=⟨_,rfl⟩;rw [hN.out]at bZ nS;clear iL HC HA x0 z0 HR HE hN;go_wp2_with (go_at_call 75;(with_reducible refine bZ.mono ?_);rintro e w3 ⟨rfl,ho⟩;clear bZ);obtain ⟨c1,c2,HY,HZ⟩:=nS.out w3 ho;have k0:=aaa _ _ 0 _ _ _ HY.out;have k1:=aaa _ _ 1 _ _ _ HY.out;have k2:=aaa _ _ 2 _ _ _ HY.out;have kf:∀i,w3.frozen? ⟨b2,i,none⟩=false:=fun i=>by simp [World.frozen?,HY.out]
  obtain ⟨V,hV⟩:=Haa ((((w3.setCell ⟨b2,0,none⟩ (.int .i64 0)).setCell ⟨b2,1,none⟩ (.int .i64 (T+n))).setCell ⟨b2,2,none⟩ (.int .i64 (mH l.c n m O))).drew)
  have HQ:Hid (Q V):=hd (by
   rw [<-hV.out]
   exact HZ.out _ (((dz (dz (dP _ _ _ _) _ _) _ _)).trans (Mod.aS _ (fu _)) (fun _ h=> .inl h)))
  have eV:Hid (V.heap[b2]?=some (.cells #[.int .i64 0,.int .i64 (T+n),.int .i64 (mH l.c n m O)] 81 (0,0))):=hd (by
   rw [<-hV.out]
   exact KD (W:=w3) HY.out _ _ _)
  clear nS ho HZ y0 y1 y2 y3;go_region
  all_goals (
   go_wp2_with fail;rw [hV.out];have j0:=aaa _ _ 0 _ _ _ eV.out;have j1:=aaa _ _ 1 _ _ _ eV.out;have j2:=aaa _ _ 2 _ _ _ eV.out;refine aar (v:=.agg #[.int .i64 0,.int .i64 (T+n),.int .i64 (mH l.c n m O)]) ?_ rfl ⟨rfl,HQ.out⟩;clear HQ eV c1 c2 k0 k1 k2 hV;simp at j0 j1 j2
   simp [results,results36,go_sem,j0,j1,j2]))
theorem do_kill(h:dF w br l U m T O)(p v:Int)(e1:eG l.c m p≠0):
 Calls prog 36 #[.pointer (some ⟨br,0,none⟩),.agg #[.int .i64 3,.int .i64 p,.int .i64 v]] w fun e w'=>e=.returned (yh (eG l.c m p) T O)/\bJ w br l U m T O w':=by
 have ai:=aA w (.cells #[.int .i64 3,.int .i64 p,.int .i64 v] 32);have hx:=aae w (.cells #[.int .i64 3,.int .i64 p,.int .i64 v] 32);obtain ⟨W0,aD⟩:=Haa (w.alloc (.cells #[.int .i64 3,.int .i64 p,.int .i64 v] 32));rw [aD.out]at ai hx;have aH:=aA W0 (.cells #[.int .i64 0,.int .i64 0,.int .i64 0] 81);have hy:=aae W0 (.cells #[.int .i64 0,.int .i64 0,.int .i64 0] 81);obtain ⟨W1,bS⟩:=Haa (W0.alloc (.cells #[.int .i64 0,.int .i64 0,.int .i64 0] 81));rw [bS.out]at aH hy;have bu:W0.heap.size=w.heap.size+1:=by rw [<-aD.out];simp
 have aI:=ai.trans (aH.mono ai.size);have jZ:=Jq W1.drew;have af:=h.lt;rw [bu]at hy;obtain ⟨bx,aT⟩:=Haa w.heap.size;rw [aT.out]at hx hy bu af;have jJ:=(aH.block bx (by omega)).trans hx;obtain ⟨b2,kp⟩:=Haa (bx+1);rw [kp.out]at hy
 have HA:Hid (∀W,Below W1.drew.heap.size W1.drew W->Hid (dF W br l U m T O)/\W.cell? ⟨bx,0,none⟩=some (.int .i64 3)/\W.cell? ⟨bx,1,none⟩=some (.int .i64 p)/\W.cell? ⟨bx,2,none⟩=some (.int .i64 v)/\Hid (W.heap[b2]?=some (.cells #[.int .i64 0,.int .i64 0,.int .i64 0] 81 (0,0)))):=hd (fun W hb=>by
  have kq:Below W1.heap.size W1 W:=cC hb;have mB:=(kq.block bx (by have:=aH.size;omega)).trans jJ;have zm:=(kq.block b2 (aab.1 hy).1).trans hy
  exact ⟨hd ((h.below aI).below kq),aaa _ _ _ _ _ _ mB,aaa _ _ _ _ _ _ mB,aaa _ _ _ _ _ _ mB,hd zm⟩)
 have HE:Hid (∀(W W':World),Below W1.drew.heap.size W1.drew W->bJ W br l U m T O W'->W'.cell? ⟨br,1,none⟩=some (.int .i64 T)/\W'.cell? ⟨br,2,none⟩=some (.int .i64 O)/\Hid (W'.heap[b2]?=some (.cells #[.int .i64 0,.int .i64 0,.int .i64 0] 81 (0,0)))/\Hid (∀W2,Mod (fun k=>k=b2) W' W2->bJ w br l U m T O W2)):=hd (fun W W' hb ho=>by
  have vM:=(HA.out W hb).2.2.2.2.out;have aj:Below w.heap.size w W:=aI.trans ((cC hb).mono aI.size);have iK:b2<W.heap.size:=(aab.1 vM).1;obtain ⟨om,U',o1,o2⟩:=id ho;have qo:¬(U b2\/b2=br):=fun e=>by
   have:=kp.out;rcases e with e|e
   ·have:=h.kk.lt b2 e;have:=aT.out;omega
   ·omega
  exact ⟨o1.c1,o1.c2,hd ((om.block b2 iK qo).trans vM),hd (fun W2 hm=>bJ.fin h aj ho (by have:=kp.out;have:=aT.out;omega) iK hm)⟩)
 have HC:Hid (∀W,dF W br l U m T O->Calls prog 77 #[.pointer (some ⟨br,0,none⟩),.agg #[.int .i64 3,.int .i64 p,.int .i64 v]] W fun e w'=>e=.returned (.int .i64 (eG l.c m p))/\bJ W br l U m T O w'):=hd (fun W h=>(rkill_no h 3 p v e1).mono fun e w' hh=>⟨hh.1,h.same hh.2⟩);obtain ⟨Q,hQ⟩:∃Q:World->Prop,Hid (bJ w br l U m T O=Q):=⟨_,rfl⟩;rw [hQ.out]at HE⊢;have nQ:¬b2=br:=by
  have:=kp.out;omega
 unfold yh;have z0:=(HA.out W1.drew (aak _ _)).2.1;clear h ai hx aH hy aI jJ bu e1;go_enter func36,ntmps36;go_upto_region 2 with fail;rw [aD.out,bS.out,aT.out,kp.out];clear aD bS;have x0:W1.cell? ⟨bx,0,none⟩=some (.int .i64 3):=z0;go_region_law (first|(go_simp;(with_reducible refine jZ.mono ?_);rintro e w2 ⟨bd,rfl,hD,bH⟩;clear jZ;have iL:=look_kill hD;obtain ⟨HR,y0,y1,y2,y3⟩:=HA.out w2 bH;replace bH:=hd bH;unfold rK at iL))
 all_goals (
  have bZ:=HC.out w2 HR.out;have nS:=hd (fun W' h=>HE.out w2 W' bH.out h);obtain ⟨N,hN⟩:∃N:World->Prop,Hid (bJ w2 br l U m T O=N):=⟨_,rfl⟩;rw [hN.out]at bZ nS;clear iL HC HA x0 z0 HR HE hN;go_wp2_with (go_at_call 77;(with_reducible refine bZ.mono ?_);rintro e w3 ⟨rfl,ho⟩;clear bZ);obtain ⟨c1,c2,HY,HZ⟩:=nS.out w3 ho;have k0:=aaa _ _ 0 _ _ _ HY.out;have k1:=aaa _ _ 1 _ _ _ HY.out;have k2:=aaa _ _ 2 _ _ _ HY.out;have kf:∀i,w3.frozen? ⟨b2,i,none⟩=false:=fun i=>by simp [World.frozen?,HY.out]
  obtain ⟨V,hV⟩:=Haa ((((w3.setCell ⟨b2,0,none⟩ (.int .i64 (eG l.c m p))).setCell ⟨b2,1,none⟩ (.int .i64 T)).setCell ⟨b2,2,none⟩ (.int .i64 O)).drew)
  have HQ:Hid (Q V):=hd (by
   rw [<-hV.out]
   exact HZ.out _ (((dz (dz (dP _ _ _ _) _ _) _ _)).trans (Mod.aS _ (fu _)) (fun _ h=> .inl h)))
  have eV:Hid (V.heap[b2]?=some (.cells #[.int .i64 (eG l.c m p),.int .i64 T,.int .i64 O] 81 (0,0))):=hd (by
   rw [<-hV.out]
   exact KD (W:=w3) HY.out _ _ _)
  clear nS ho HZ y0 y1 y2 y3;go_region
  all_goals (
   go_wp2_with fail;rw [hV.out];have j0:=aaa _ _ 0 _ _ _ eV.out;have j1:=aaa _ _ 1 _ _ _ eV.out;have j2:=aaa _ _ 2 _ _ _ eV.out;refine aar (v:=.agg #[.int .i64 (eG l.c m p),.int .i64 T,.int .i64 O]) ?_ rfl ⟨rfl,HQ.out⟩;clear HQ eV c1 c2 k0 k1 k2 hV;simp at j0 j1 j2
   simp [results,results36,go_sem,j0,j1,j2]))
theorem do_inject(h:dF w br l U m T O)(p v:Int)(e1:eG l.c m p≠0):
 Calls prog 36 #[.pointer (some ⟨br,0,none⟩),.agg #[.int .i64 2,.int .i64 p,.int .i64 v]] w fun e w'=>e=.returned (yh (eG l.c m p) T O)/\bJ w br l U m T O w':=by
 have ai:=aA w (.cells #[.int .i64 2,.int .i64 p,.int .i64 v] 32);have hx:=aae w (.cells #[.int .i64 2,.int .i64 p,.int .i64 v] 32);obtain ⟨W0,aD⟩:=Haa (w.alloc (.cells #[.int .i64 2,.int .i64 p,.int .i64 v] 32));rw [aD.out]at ai hx;have aH:=aA W0 (.cells #[.int .i64 0,.int .i64 0,.int .i64 0] 81);have hy:=aae W0 (.cells #[.int .i64 0,.int .i64 0,.int .i64 0] 81);obtain ⟨W1,bS⟩:=Haa (W0.alloc (.cells #[.int .i64 0,.int .i64 0,.int .i64 0] 81));rw [bS.out]at aH hy;have bu:W0.heap.size=w.heap.size+1:=by rw [<-aD.out];simp
 have aI:=ai.trans (aH.mono ai.size);have jZ:=Jq W1.drew;have af:=h.lt;rw [bu]at hy;obtain ⟨bx,aT⟩:=Haa w.heap.size;rw [aT.out]at hx hy bu af;have jJ:=(aH.block bx (by omega)).trans hx;obtain ⟨b2,kp⟩:=Haa (bx+1);rw [kp.out]at hy
 have HA:Hid (∀W,Below W1.drew.heap.size W1.drew W->Hid (dF W br l U m T O)/\W.cell? ⟨bx,0,none⟩=some (.int .i64 2)/\W.cell? ⟨bx,1,none⟩=some (.int .i64 p)/\W.cell? ⟨bx,2,none⟩=some (.int .i64 v)/\Hid (W.heap[b2]?=some (.cells #[.int .i64 0,.int .i64 0,.int .i64 0] 81 (0,0)))):=hd (fun W hb=>by
  have kq:Below W1.heap.size W1 W:=cC hb;have mB:=(kq.block bx (by have:=aH.size;omega)).trans jJ;have zm:=(kq.block b2 (aab.1 hy).1).trans hy
  exact ⟨hd ((h.below aI).below kq),aaa _ _ _ _ _ _ mB,aaa _ _ _ _ _ _ mB,aaa _ _ _ _ _ _ mB,hd zm⟩)
 have HE:Hid (∀(W W':World),Below W1.drew.heap.size W1.drew W->bJ W br l U m T O W'->W'.cell? ⟨br,1,none⟩=some (.int .i64 T)/\W'.cell? ⟨br,2,none⟩=some (.int .i64 O)/\Hid (W'.heap[b2]?=some (.cells #[.int .i64 0,.int .i64 0,.int .i64 0] 81 (0,0)))/\Hid (∀W2,Mod (fun k=>k=b2) W' W2->bJ w br l U m T O W2)):=hd (fun W W' hb ho=>by
  have vM:=(HA.out W hb).2.2.2.2.out;have aj:Below w.heap.size w W:=aI.trans ((cC hb).mono aI.size);have iK:b2<W.heap.size:=(aab.1 vM).1;obtain ⟨om,U',o1,o2⟩:=id ho;have qo:¬(U b2\/b2=br):=fun e=>by
   have:=kp.out;rcases e with e|e
   ·have:=h.kk.lt b2 e;have:=aT.out;omega
   ·omega
  exact ⟨o1.c1,o1.c2,hd ((om.block b2 iK qo).trans vM),hd (fun W2 hm=>bJ.fin h aj ho (by have:=kp.out;have:=aT.out;omega) iK hm)⟩)
 have HC:Hid (∀W,dF W br l U m T O->Calls prog 76 #[.pointer (some ⟨br,0,none⟩),.agg #[.int .i64 2,.int .i64 p,.int .i64 v]] W fun e w'=>e=.returned (.int .i64 (eG l.c m p))/\bJ W br l U m T O w'):=hd (fun W h=>(rinject_no h 2 p v e1).mono fun e w' hh=>⟨hh.1,h.same hh.2⟩);obtain ⟨Q,hQ⟩:∃Q:World->Prop,Hid (bJ w br l U m T O=Q):=⟨_,rfl⟩;rw [hQ.out]at HE⊢;have nQ:¬b2=br:=by
  have:=kp.out;omega
 unfold yh;have z0:=(HA.out W1.drew (aak _ _)).2.1;clear h ai hx aH hy aI jJ bu e1;go_enter func36,ntmps36;go_upto_region 2 with fail;rw [aD.out,bS.out,aT.out,kp.out];clear aD bS;have x0:W1.cell? ⟨bx,0,none⟩=some (.int .i64 2):=z0;go_region_law (first|(go_simp;(with_reducible refine jZ.mono ?_);rintro e w2 ⟨bd,rfl,hD,bH⟩;clear jZ;have iL:=look_inject hD;obtain ⟨HR,y0,y1,y2,y3⟩:=HA.out w2 bH;replace bH:=hd bH;unfold rK at iL))
 all_goals (
  have bZ:=HC.out w2 HR.out;have nS:=hd (fun W' h=>HE.out w2 W' bH.out h);obtain ⟨N,hN⟩:∃N:World->Prop,Hid (bJ w2 br l U m T O=N):=⟨_,rfl⟩;rw [hN.out]at bZ nS;clear iL HC HA x0 z0 HR HE hN;go_wp2_with (go_at_call 76;(with_reducible refine bZ.mono ?_);rintro e w3 ⟨rfl,ho⟩;clear bZ);obtain ⟨c1,c2,HY,HZ⟩:=nS.out w3 ho;have k0:=aaa _ _ 0 _ _ _ HY.out;have k1:=aaa _ _ 1 _ _ _ HY.out;have k2:=aaa _ _ 2 _ _ _ HY.out;have kf:∀i,w3.frozen? ⟨b2,i,none⟩=false:=fun i=>by simp [World.frozen?,HY.out]
  obtain ⟨V,hV⟩:=Haa ((((w3.setCell ⟨b2,0,none⟩ (.int .i64 (eG l.c m p))).setCell ⟨b2,1,none⟩ (.int .i64 T)).setCell ⟨b2,2,none⟩ (.int .i64 O)).drew)
  have HQ:Hid (Q V):=hd (by
   rw [<-hV.out]
   exact HZ.out _ (((dz (dz (dP _ _ _ _) _ _) _ _)).trans (Mod.aS _ (fu _)) (fun _ h=> .inl h)))
  have eV:Hid (V.heap[b2]?=some (.cells #[.int .i64 (eG l.c m p),.int .i64 T,.int .i64 O] 81 (0,0))):=hd (by
   rw [<-hV.out]
   exact KD (W:=w3) HY.out _ _ _)
  clear nS ho HZ y0 y1 y2 y3;go_region
  all_goals (
   go_wp2_with fail;rw [hV.out];have j0:=aaa _ _ 0 _ _ _ eV.out;have j1:=aaa _ _ 1 _ _ _ eV.out;have j2:=aaa _ _ 2 _ _ _ eV.out;refine aar (v:=.agg #[.int .i64 (eG l.c m p),.int .i64 T,.int .i64 O]) ?_ rfl ⟨rfl,HQ.out⟩;clear HQ eV c1 c2 k0 k1 k2 hV;simp at j0 j1 j2
   simp [results,results36,go_sem,j0,j1,j2]))
theorem do_none(h:dF w br l U m T O)(n v:Int):
 Calls prog 36 #[.pointer (some ⟨br,0,none⟩),.agg #[.int .i64 0,.int .i64 n,.int .i64 v]] w fun e w'=>e=.returned (yh 1 T O)/\bJ w br l U m T O w':=by
 have ai:=aA w (.cells #[.int .i64 0,.int .i64 n,.int .i64 v] 32);have hx:=aae w (.cells #[.int .i64 0,.int .i64 n,.int .i64 v] 32);obtain ⟨W0,aD⟩:=Haa (w.alloc (.cells #[.int .i64 0,.int .i64 n,.int .i64 v] 32));rw [aD.out]at ai hx;have aH:=aA W0 (.cells #[.int .i64 0,.int .i64 0,.int .i64 0] 81);have hy:=aae W0 (.cells #[.int .i64 0,.int .i64 0,.int .i64 0] 81);obtain ⟨W1,bS⟩:=Haa (W0.alloc (.cells #[.int .i64 0,.int .i64 0,.int .i64 0] 81));rw [bS.out]at aH hy;have bu:W0.heap.size=w.heap.size+1:=by rw [<-aD.out];simp
 have aI:=ai.trans (aH.mono ai.size);have jZ:=Jq W1.drew;have af:=h.lt;rw [bu]at hy;obtain ⟨bx,aT⟩:=Haa w.heap.size;rw [aT.out]at hx hy bu af;have jJ:=(aH.block bx (by omega)).trans hx;obtain ⟨b2,kp⟩:=Haa (bx+1);rw [kp.out]at hy
 have HA:Hid (∀W,Below W1.drew.heap.size W1.drew W->Hid (dF W br l U m T O)/\W.cell? ⟨bx,0,none⟩=some (.int .i64 0)/\W.cell? ⟨bx,1,none⟩=some (.int .i64 n)/\W.cell? ⟨bx,2,none⟩=some (.int .i64 v)/\Hid (W.heap[b2]?=some (.cells #[.int .i64 0,.int .i64 0,.int .i64 0] 81 (0,0)))):=hd (fun W hb=>by
  have kq:Below W1.heap.size W1 W:=cC hb;have mB:=(kq.block bx (by have:=aH.size;omega)).trans jJ;have zm:=(kq.block b2 (aab.1 hy).1).trans hy
  exact ⟨hd ((h.below aI).below kq),aaa _ _ _ _ _ _ mB,aaa _ _ _ _ _ _ mB,aaa _ _ _ _ _ _ mB,hd zm⟩)
 have HE:Hid (∀(W W':World),Below W1.drew.heap.size W1.drew W->bJ W br l U m T O W'->W'.cell? ⟨br,1,none⟩=some (.int .i64 T)/\W'.cell? ⟨br,2,none⟩=some (.int .i64 O)/\Hid (W'.heap[b2]?=some (.cells #[.int .i64 0,.int .i64 0,.int .i64 0] 81 (0,0)))/\Hid (∀W2,Mod (fun k=>k=b2) W' W2->bJ w br l U m T O W2)):=hd (fun W W' hb ho=>by
  have vM:=(HA.out W hb).2.2.2.2.out;have aj:Below w.heap.size w W:=aI.trans ((cC hb).mono aI.size);have iK:b2<W.heap.size:=(aab.1 vM).1;obtain ⟨om,U',o1,o2⟩:=id ho;have qo:¬(U b2\/b2=br):=fun e=>by
   have:=kp.out;rcases e with e|e
   ·have:=h.kk.lt b2 e;have:=aT.out;omega
   ·omega
  exact ⟨o1.c1,o1.c2,hd ((om.block b2 iK qo).trans vM),hd (fun W2 hm=>bJ.fin h aj ho (by have:=kp.out;have:=aT.out;omega) iK hm)⟩)
 have HC:Hid (∀W,dF W br l U m T O->bJ W br l U m T O W):=hd (fun W h=>bJ.refl h);obtain ⟨Q,hQ⟩:∃Q:World->Prop,Hid (bJ w br l U m T O=Q):=⟨_,rfl⟩;rw [hQ.out]at HE⊢;have nQ:¬b2=br:=by
  have:=kp.out;omega
 unfold yh;have z0:=(HA.out W1.drew (aak _ _)).2.1;clear h ai hx aH hy aI jJ bu;go_enter func36,ntmps36;go_upto_region 2 with fail;rw [aD.out,bS.out,aT.out,kp.out];clear aD bS;have x0:W1.cell? ⟨bx,0,none⟩=some (.int .i64 0):=z0;go_region_law (first|(go_simp;(with_reducible refine jZ.mono ?_);rintro e w2 ⟨bd,rfl,hD,bH⟩;clear jZ;have iL:=look_none hD;obtain ⟨HR,y0,y1,y2,y3⟩:=HA.out w2 bH;replace bH:=hd bH;unfold rK at iL))
 all_goals (
  have bZ:=HC.out w2 HR.out;have nS:=hd (fun W' h=>HE.out w2 W' bH.out h);obtain ⟨N,hN⟩:∃N:World->Prop,Hid (bJ w2 br l U m T O=N):=⟨_,rfl⟩;rw [hN.out]at bZ nS;clear iL HC HA x0 z0 HR HE hN;obtain ⟨w3,rfl⟩:∃W,W=w2:=⟨_,rfl⟩;have ho:=bZ;obtain ⟨c1,c2,HY,HZ⟩:=nS.out w3 ho;clear bZ;go_upto_region 5 with fail;have k0:=aaa _ _ 0 _ _ _ HY.out;have k1:=aaa _ _ 1 _ _ _ HY.out;have k2:=aaa _ _ 2 _ _ _ HY.out;have kf:∀i,w3.frozen? ⟨b2,i,none⟩=false:=fun i=>by simp [World.frozen?,HY.out]
  obtain ⟨V,hV⟩:=Haa ((((w3.setCell ⟨b2,0,none⟩ (.int .i64 1)).setCell ⟨b2,1,none⟩ (.int .i64 T)).setCell ⟨b2,2,none⟩ (.int .i64 O)).drew)
  have HQ:Hid (Q V):=hd (by
   rw [<-hV.out]
   exact HZ.out _ (((dz (dz (dP _ _ _ _) _ _) _ _)).trans (Mod.aS _ (fu _)) (fun _ h=> .inl h)))
  have eV:Hid (V.heap[b2]?=some (.cells #[.int .i64 1,.int .i64 T,.int .i64 O] 81 (0,0))):=hd (by
   rw [<-hV.out]
   exact KD (W:=w3) HY.out _ _ _)
  clear nS ho HZ y0 y1 y2 y3;go_region
  all_goals (
   go_wp2_with fail;rw [hV.out];have j0:=aaa _ _ 0 _ _ _ eV.out;have j1:=aaa _ _ 1 _ _ _ eV.out;have j2:=aaa _ _ 2 _ _ _ eV.out;refine aar (v:=.agg #[.int .i64 1,.int .i64 T,.int .i64 O]) ?_ rfl ⟨rfl,HQ.out⟩;clear HQ eV c1 c2 k0 k1 k2 hV;simp at j0 j1 j2
   simp [results,results36,go_sem,j0,j1,j2]))
end
theorem ST.mod{B:Nat}{w w':World}{m:MS}{ps:List iM}{a:Option Addr}{c:Nat}{qs:List iN}{b:Option Addr}{d:Nat}{Fs:Nat->Nat->Prop}{S:Nat->Prop}(h:ST B w m ps a c qs b d Fs)(hm:Mod S w w')(hn:∀k,S k->k<B):ST B w' m ps a c qs b d Fs:=
 ⟨h.np,h.nq,h.rp.mod hm (fun k hk e=>by have:=(h.ag k hk).1;have:=hn k e;omega),h.rq.mod hm (fun k hk e=>by have:=(h.bg k hk).1;have:=hn k e;omega),
  h.pj.mod hm (fun i hi k hk e=>by have:=(h.pj.at' i hi).ge k hk;have:=hn k e;omega),h.ag,h.bg⟩
def Kb(w:World)(m:MS)(E:Ending)(w':World):Prop:=∃B ps a c qs b d Fs,E=.returned (xE m a c b d)/\w.heap.size<=B/\ST B w' m ps a c qs b d Fs/\Below w.heap.size w w'
section
variable{w:World} {br:Nat} {l:Lay} {U:Nat->Prop} {m:MS} {T O:Int}
theorem rstate_any(h:dF w br l U m T O)(hs:aG l.c m)(hc:dK l.c):Calls prog 54 #[.pointer (some ⟨br,0,none⟩)] w (Kb w m):=by
 have ai:=aA w (.cells z51 78);have hx:=aae w (.cells z51 78);obtain ⟨W0,aD⟩:=Haa (w.alloc (.cells z51 78));rw [aD.out]at ai hx;have bu:W0.heap.size=w.heap.size+1:=by rw [<-aD.out];simp
 have h0:=h.below ai;have c0:=h0.c0;have aJ:=state_m h0.kk hs hc;obtain ⟨bx,aT⟩:=Haa w.heap.size;rw [aT.out]at hx bu;obtain ⟨Q,hQ⟩:=Haa (Kb w m);rw [hQ.out]
 have HE:Hid (∀e w1,Cp W0 m e w1->∃a c b d,e=.returned (xE m a c b d)/\Hid (w1.heap[bx]?=some (.cells z51 78 (0,0)))/\Hid (∀W,Mod (fun k=>k=bx) w1 W->Q (.returned (xE m a c b d)) W)):=hd (by
  rintro e w1 ⟨ps,a,c,qs,b,d,Fs,rfl,h2,h3⟩;refine ⟨a,c,b,d,rfl,hd ((h3.block bx (by omega)).trans hx),hd (fun W hm=> ?_)⟩;rw [<-hQ.out];have cD:=aT.out;refine ⟨_,ps,a,c,qs,b,d,Fs,rfl,by omega,h2.mod hm (fun k hk=>by rw [hk];omega), ?_⟩
  exact ((Mod.aS (fun _=>False) (ai.trans (h3.mono ai.size))).trans hm (fun k e=> .inr (by omega))).below (aag _) (fun k _ hk=>hk.elim))
 obtain ⟨N,hN⟩:∃N:Ending->World->Prop,Hid (Cp W0 m=N):=⟨_,rfl⟩;rw [hN.out]at aJ HE;unfold z51 at aD HE;unfold xE at HE;obtain ⟨tk,jN⟩:=Haa m.tick;obtain ⟨np,dI⟩:=Haa m.pt.length;obtain ⟨nq,dV⟩:=Haa m.pr.length;rw [jN.out,dI.out,dV.out]at HE;clear h h0 hs hc ai hx bu hQ hN jN dI dV;go_enter func54,ntmps54;go_upto_region 1 with fail;rw [aD.out,aT.out];clear aD aT;go_wp2_with (go_at_call 74;(with_reducible refine aJ.mono ?_);rintro e w1 he;obtain ⟨a,c,b,d,rfl,HY,HZ⟩:=HE.out e w1 he;clear he aJ HE;have k0:=aaa _ _ 0 _ _ _ HY.out;have k1:=aaa _ _ 1 _ _ _ HY.out;have k2:=aaa _ _ 2 _ _ _ HY.out;have kf:∀i,w1.frozen? ⟨bx,i,none⟩=false:=(fun i=>by simp [World.frozen?,HY.out]));have HQ:=hd (HZ.out (((w1.setCell ⟨bx,0,none⟩ (.int .i64 tk)).setCell ⟨bx,1,none⟩ (.slice a np c)).setCell ⟨bx,2,none⟩ (.slice b nq d)) (dz (dz (dP _ _ _ _) _ _) _ _))
 have eV:Hid ((((w1.setCell ⟨bx,0,none⟩ (.int .i64 tk)).setCell ⟨bx,1,none⟩ (.slice a np c)).setCell ⟨bx,2,none⟩ (.slice b nq d)).heap[bx]?=some (.cells #[.int .i64 tk,.slice a np c,.slice b nq d] 78 (0,0))):=hd (by
  rw [aU (aU (aU HY.out _) _)]
  rfl)
 obtain ⟨V,hV⟩:=Haa (((w1.setCell ⟨bx,0,none⟩ (.int .i64 tk)).setCell ⟨bx,1,none⟩ (.slice a np c)).setCell ⟨bx,2,none⟩ (.slice b nq d));rw [hV.out]at HQ eV⊢;have j0:=aaa _ _ 0 _ _ _ eV.out;have j1:=aaa _ _ 1 _ _ _ eV.out;have j2:=aaa _ _ 2 _ _ _ eV.out;refine aar (v:=.agg #[.int .i64 tk,.slice a np c,.slice b nq d]) ?_ rfl HQ.out;clear HQ eV k0 k1 k2 hV HY;simp at j0 j1 j2;simp [results,results54,go_sem,j0,j1,j2]
end
variable{w:World}{b:Nat}
theorem jc{o x:Obj}(h:w.heap[b]?=some x):(w.alloc o).heap[b]?=some x:=((aA w o).block b (aab.1 h).1).trans h
theorem zQ{n:Nat}(hn:w.heap.size=n)(cs:Array Value)(T:TypeId):(w.alloc (.cells cs T)).heap[n]?=some (.cells cs T (0,0))/\(w.alloc (.cells cs T)).heap.size=n+1:=by
 subst hn;exact ⟨aae w _,by simp⟩
theorem BX{cs:Array Value}{T:TypeId}{xs:List Value}(h:w.heap[b]?=some (.cells cs T (0,0)))(e:cs.toList=xs):Rd w (some ⟨b,0,none⟩) xs:=fun j u hj=>by
 refine ⟨b,0,rfl, ?_⟩;rw [aaa _ _ _ _ _ _ h,aaH];rw [<-e]at hj;simpa using hj
end Go.Proofs.YthopnfbjiifhhaaGreatDoor
