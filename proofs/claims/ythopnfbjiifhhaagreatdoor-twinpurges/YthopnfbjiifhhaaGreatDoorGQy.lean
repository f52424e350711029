/- An instruction as the reader takes it. -/
import Derived.Test.YthopnfbjiifhhaaGreatDoorGQm
set_option maxHeartbeats 4000000
set_option maxRecDepth 100000
namespace Go.Proofs.YthopnfbjiifhhaaGreatDoor
open Go.RowKit Go.Proofs.Tryz
def lG(bs:List Nat)(s:St):Nat->St
 |0=>s
 |m+1=>(az bs 1 (lG bs s m)).2
def lH(bs:List Nat)(s:St):Ins:=⟨((az bs 1 (lG bs s 0)).1:Nat),((az bs 1 (lG bs s 1)).1:Nat),((az bs 1 (lG bs s 2)).1:Nat),((az bs 1 (lG bs s 3)).1:Nat),wrap64 ((az bs 8 (lG bs s 4)).1:Nat)⟩
def oG(bs:List Nat)(s:St):St:=(az bs 8 (lG bs s 4)).2
def qJ(bs:List Nat)(p q:Nat):List Nat:=(bs.drop p).take (q-p)
def Eo(bs:List Nat)(s:St)(E:Int):Int:=if E=13 then 4 else(je (qJ bs s.nx (oG bs s).nx)).2
def xV(bs:List Nat)(n k:Int)(s:St):St:=eB (oG bs s) (wrong (lH bs s) n k).1 (s.nx+Eo bs s (wrong (lH bs s) n k).1)
variable{bs:List Nat}{k p q:Nat}{s:St}{n:Int}{w:World}
theorem DJ(h:s.e=0)(hl:s.nx+k<=bs.length):az bs k s=(gD bs s.nx k,{s with fr:=s.nx,nx:=s.nx+k}):=by
 unfold az;rw [aaf (by simp [h]),aaf (by omega)]
theorem SX(h:s.e=0)(hl:bs.length<s.nx+k):az bs k s=(0,{s with e:=5,at_:=bs.length}):=by
 unfold az;rw [aaf (by simp [h]),aah hl]
theorem Jv(bs:List Nat)(p:Nat):gD bs p 1=bs.getD p 0:=by simp [gD]
theorem zG{bs:List Nat}{s:St}(h:s.e=0):∀m,s.nx+m<=bs.length->(lG bs s m).e=0/\(lG bs s m).nx=s.nx+m/\(lG bs s m).at_=s.at_
 |0,_=>⟨h,rfl,rfl⟩
 |m+1,hl=>by
  obtain ⟨h1,h2,h3⟩:=zG (bs:=bs) h m (by omega);rw [lG,DJ h1 (by omega)];exact ⟨h1,by simp only;omega,h3⟩
theorem SY{bs:List Nat}{s:St}(h:s.e=0)(hs:s.nx<=bs.length):∀m,bs.length<s.nx+m->(lG bs s m).e=5/\(lG bs s m).at_=bs.length/\(lG bs s m).nx=bs.length
 |0,hl=>by omega
 |m+1,hl=>by
  by_cases h1:bs.length<s.nx+m
  ·obtain ⟨k1,k2,k3⟩:=SY h hs m h1;rw [lG,Ju (by rw [k1];decide)];exact ⟨k1,k2,k3⟩
  ·obtain ⟨k1,k2,k3⟩:=zG (bs:=bs) h m (by omega);rw [lG,SX k1 (by omega)];exact ⟨rfl,rfl,by simp only;omega⟩
theorem raw_full(h:s.e=0)(hl:s.nx+12<=bs.length):lH bs s=fc bs s.nx/\(oG bs s).e=0/\(oG bs s).at_=s.at_/\(oG bs s).nx=s.nx+12:=by
 have g0:=zG (bs:=bs) h 0 (by omega);have g1:=zG (bs:=bs) h 1 (by omega);have g2:=zG (bs:=bs) h 2 (by omega);have g3:=zG (bs:=bs) h 3 (by omega);have g4:=zG (bs:=bs) h 4 (by omega);unfold lH oG fc;rw [DJ g0.1 (by omega),DJ g1.1 (by omega),DJ g2.1 (by omega),DJ g3.1 (by omega),DJ g4.1 (by omega)];simp only
 rw [g0.2.1,g1.2.1,g2.2.1,g3.2.1,g4.2.1,Jv,Jv,Jv,Jv];exact ⟨rfl,g4.1,g4.2.2,by omega⟩
theorem raw_short(h:s.e=0)(hs:s.nx<=bs.length)(hl:bs.length<s.nx+12):(oG bs s).e=5/\(oG bs s).at_=bs.length:=by
 unfold oG;by_cases h1:bs.length<s.nx+4
 ·obtain ⟨k1,k2,k3⟩:=SY h hs 4 h1;rw [Ju (by rw [k1];decide)];exact ⟨k1,k2⟩
 ·obtain ⟨k1,k2,k3⟩:=zG (bs:=bs) h 4 (by omega);rw [SX k1 (by omega)];exact ⟨rfl,rfl⟩
theorem UH(h:s.nx<=bs.length):s.nx<=(az bs k s).2.nx/\(az bs k s).2.nx<=bs.length/\(az bs k s).2.nx<=s.nx+k:=by
 unfold az;split
 ·exact ⟨aag _,h,by simp only;omega⟩
 ·split
  ·exact ⟨aag _,h,by simp only;omega⟩
  ·simp only
   omega
theorem UI{bs:List Nat}{s:St}(h:s.nx<=bs.length):∀m,s.nx<=(lG bs s m).nx/\(lG bs s m).nx<=bs.length/\(lG bs s m).nx<=s.nx+m
 |0=>⟨aag _,h,aag _⟩
 |m+1=>by
  have ih:=UI h m;have:=UH (bs:=bs) (k:=1) ih.2.1;rw [lG];omega
theorem raw_nx(h:s.nx<=bs.length):s.nx<=(oG bs s).nx/\(oG bs s).nx<=bs.length/\(oG bs s).nx<=s.nx+12:=by
 have ih:=UI h 4;have:=UH (bs:=bs) (k:=8) ih.2.1;unfold oG;omega
theorem zL(h:p<=q)(hq:q<=bs.length):(qJ bs p q).length=q-p:=by
 unfold qJ;rw [aa4,List.length_drop];omega
theorem DX{i:Nat}(h:i<q-p):(qJ bs p q).getD i 0=bs.getD (p+i) 0:=by
 unfold qJ;rw [aac,aaO,aah h,abB,<-aac]
theorem get_cut:fc (qJ bs p (p+12)) 0=fc bs p:=by
 have e1:∀i,i<12->(qJ bs p (p+12)).getD i 0=bs.getD (p+i) 0:=fun i hi=>DX (by omega)
 have e2:∀m,m<=8->gD (qJ bs p (p+12)) (0+4) m=gD bs (p+4) m:=fun m=>by
  induction m with
  |zero=>intro _;rfl
  |succ m ih=>
   intro hm;rw [gD,gD,ih (by omega),show 0+4+m=4+m by omega,e1 (4+m) (by omega),show p+(4+m)=p+4+m by omega]
 unfold fc;rw [e2 8 (by omega),e1 0 (by omega),e1 (0+1) (by omega),e1 (0+2) (by omega),e1 (0+3) (by omega)];simp
theorem ND(y:Int)(b:Bool):cV y b≠13:=by
 unfold cV;split<;>split<;>decide
theorem immE_less{o i k:Int}(hn:1<=n)(hi:kn o i n k≠0)(h13:kn o i n k≠13):kn o i 1 8≠0:=by
 unfold kn at hi h13⊢;by_cases hI:hI o=true
 ·rw [aah hI]at hi h13⊢;by_cases h22:o=22\/o=23
  ·rw [aah h22]at hi⊢;by_cases hj:0<=i/\i<=n
   ·rw [aah hj]at hi;exact absurd rfl hi
   ·rw [aaf (by omega)];decide
  ·rw [aaf h22]at hi h13⊢;by_cases h29:o=29\/o=30
   ·rw [aah h29]at hi h13;by_cases hj:0<=i/\i<k
    ·rw [aah hj]at hi;exact absurd rfl hi
    ·rw [aaf hj]at h13;exact absurd rfl h13
   ·rw [aaf h29]at hi;exact absurd rfl hi
 ·rw [aaf hI]at hi⊢;exact hi
theorem wrong_where(x:Ins)(n k:Int)(hn:1<=n)(h:(wrong x n k).1≠0):(wrong x n k).2=if(wrong x n k).1=13 then 4 else(wrong x 1 8).2:=by
 by_cases h0:0<=x.op/\x.op<34
 ·by_cases ha:cV x.a (hA x.op)=0
  ·by_cases hb:cV x.b (hB x.op)=0
   ·by_cases hc:cV x.c (hC x.op)=0
    ·by_cases hi:kn x.op x.dn n k=0
     ·rw [T4 h0 ha hb hc hi]at h;exact absurd rfl h
     ·rw [NC h0 ha hb hc hi];by_cases h13:kn x.op x.dn n k=13
      ·rw [aah h13]
      ·rw [aaf h13,NC h0 ha hb hc (immE_less hn hi h13)]
    ·rw [NB h0 ha hb hc,NB h0 ha hb hc,aaf (ND _ _)]
   ·rw [NA h0 ha hb,NA h0 ha hb,aaf (ND _ _)]
  ·rw [Nz h0 ha,Nz h0 ha,aaf (ND _ _)]
 ·rw [M9 h0,M9 h0];rfl
theorem wrong_none(x:Ins)(n k:Int)(h:(wrong x n k).1=0):(wrong x n k).2=0:=by
 obtain ⟨h1,h2,h3,h4,h5,h6⟩:=T3 h;unfold wrong;rw [aaf (by omega),aaf (by simp [h3]),aaf (by simp [h4]),aaf (by simp [h5]),aaf (by simp [h6])]
theorem decR_one(h:bs.length=12):(je bs).2=(wrong (fc bs 0) 1 8).2:=by
 unfold je;rw [aaf (by omega),aaf (by omega),h];show(nC bs 1 0 1).2=_;simp only [nC,Nat.mul_zero];by_cases hw:(wrong (fc bs 0) 1 8).1=0
 ·rw [aaf (by simp [hw]),wrong_none _ _ _ hw]
 ·rw [aah (by simpa using hw)];simp
theorem cL.ins{α:Type}{whole:sx α}{k:Int}{g:Ins->fO α}(hn:1<=n)(h:cL whole s (bQ (GA n k) g bs s.nx))(h0:s.e=0)(hs:s.nx<=bs.length):
 cL whole (xV bs n k s) (g (lH bs s) bs (xV bs n k s).nx):=by
 obtain ⟨h1,h2⟩:=h.good h0;unfold bQ GA at h1;unfold xV;by_cases hl:bs.length<s.nx+12
 ·rw [aah hl]at h1;obtain ⟨k1,k2⟩:=raw_short h0 hs hl;rw [DI (by rw [k1];decide)];right;rw [k1,k2];exact ⟨by decide,h1⟩
 ·rw [aaf hl]at h1;obtain ⟨k1,k2,k3,k4⟩:=raw_full h0 (bs:=bs) (by omega);rw [k1];by_cases hw:(wrong (fc bs s.nx) n k).1=0
  ·rw [aaf (by simp [hw])]at h1;rw [hw,tD];left;exact ⟨k2,by rw [k3,h2],by rw [k4];exact h1⟩
  ·rw [aah (by simpa using hw)]at h1;rw [Jh k2 hw];right;refine ⟨hw, ?_⟩;rw [h1];simp only
   have:Eo bs s (wrong (fc bs s.nx) n k).1=(wrong (fc bs s.nx) n k).2:=by
    unfold Eo;rw [k4,decR_one (by rw [zL (by omega) (by omega)];omega),get_cut,wrong_where _ n k hn hw]
   rw [this]
theorem mI.of_rd{a:Option Addr}(h:Rd w a (eA bs)):mI w a bs:=fun i hi=>h i _ (by simp [eA,List.getD_eq_getElem?_getD,List.getElem?_eq_getElem hi])
theorem place_13(a:Option Addr)(n cap:Nat)(w:World):
 Calls prog 138 #[.slice a n cap,.int .i64 13] w fun e w'=>e=.returned (.int .i64 4)/\Below w.heap.size w w':=by
 have B0:=hd (fk w);go_enter func138,ntmps138
 go_wp2
 go_ret;exact ⟨rfl,B0.out⟩
theorem place_dec(a:Option Addr)(cap:Nat)(bs:List Nat)(E:Int)(hE:E≠13)(w:World)(hB:mI w a bs)(hF:bR w)(hb:rZ bs)(iP:bs.length<=cap):
 Calls prog 138 #[.slice a bs.length cap,.int .i64 E] w fun e w'=>e=.returned (.int .i64 (je bs).2)/\Below w.heap.size w w':=by
 have d1:(E==13)=false:=by simpa using hE
 have hdc:Calls prog 171 #[.slice a bs.length cap] w fun e w'=>∃v x,e=.returned (.tuple #[v,.int .i64 x,.int .i64 (je bs).2])/\Below w.heap.size w w':=
  (decode_any a cap bs w hB hF hb iP).mono fun e w' hp=>by
   rcases hp with⟨hr,g,cap',he,_,aj⟩|⟨hr,he,aj⟩
   ·have:(je bs).2=0:=(SP bs).2.2 hr;exact ⟨_,_,by rw [he,this],aj⟩
   ·exact ⟨_,_,he,aj⟩
 clear hB hF hb hE;generalize (je bs).2=D at*
 go_enter func138,ntmps138;go_wp2_with (go_at_call 171;refine hdc.mono ?_;rintro e w1 ⟨v,x,rfl,aj⟩);go_ret;exact ⟨rfl,aj⟩
theorem ML(a:Option Addr)(cap:Nat)(bs:List Nat)(E:Int)(w:World)(hB:mI w a bs)(hF:bR w)(hb:rZ bs)(iP:bs.length<=cap):
 Calls prog 138 #[.slice a bs.length cap,.int .i64 E] w fun e w'=>e=.returned (.int .i64 (if E=13 then 4 else(je bs).2))/\Below w.heap.size w w':=by
 by_cases h:E=13
 ·subst h;rw [aah rfl];exact place_13 a _ cap w
 ·rw [aaf h];exact place_dec a cap bs E h w hB hF hb iP
theorem bR.mod{w':World}{S:Nat->Prop}(h:bR w)(hm:Mod S w w')(hs:¬S 1):bR w':=fun i hi=>by
 have hc:=h i hi;rw [hm.cell (p:=⟨1,i,none⟩) (aaj w _ hc) hs];exact hc
section
variable{w:World} {r:Nat} {a:Option Addr} {cap:Nat} {bs:List Nat} {s:St}
theorem Rd.cut{w:World}{a:Option Addr}{bs:List Nat}{p q:Nat}(h:Rd w a (eA bs))(hp:p<=q)(hq:q<=bs.length)(Ep:p<q):∃b o,a=some ⟨b,o,none⟩/\Rd w (some ⟨b,o+p,none⟩) (eA (qJ bs p q)):=by
 obtain ⟨b,o,rfl,_⟩:=h p (.int .u8 ((bs.getD p 0:Nat):Int)) (by simp [eA,List.getD_eq_getElem?_getD,List.getElem?_eq_getElem (show p<bs.length by omega)]);refine ⟨b,o,rfl,fun j u hj=>⟨b,o+p,rfl, ?_⟩⟩;have hl:j<q-p:=by
  rcases aaU j (q-p)with h|h
  ·exact h
  ·rw [aas (by rw [BD,zL hp hq];exact h)]at hj;cases hj
 obtain ⟨b',o',e,hc⟩:=h (p+j) u (by
  rw [<-hj];unfold eA qJ
  rw [aaK,aaK,aaO,aah hl,abB])
 cases e
 rw [abw];exact hc
theorem aN.put{W:World}{s1:St}(h:aN w r a cap bs s1 W)(h0:dW w r a cap bs s){G:Nat}(hG:w.heap.size<=G)(i:Nat)(v:Value):aN w r a cap bs s1 (W.setCell ⟨G,i,none⟩ v):=by
 have hr:=h0.lt;have hm:Mod (fun k=>k=G) W (W.setCell ⟨G,i,none⟩ v):=(Mod.refl (fun k=>k=G) W).setCell (.inl rfl) v;refine ⟨⟨?_,Rd.apart h0.rd h.1.rd hm (fun k hk=>by omega) rfl,h.1.ne,h.1.byte,h.1.le,h.1.room,h.1.nx,h.1.fr⟩,h.2.setCell (.inr hG) v⟩;rw [hm.block r h.1.lt (by omega)];exact h.1.obj
theorem FB{W:World}{G:Nat}{x0 x1 x2 x3 x4 v0 v1 v2 v3 v4:Value}{T:TypeId}(h:W.heap[G]?=some (.cells #[x0,x1,x2,x3,x4] T (0,0))):
 (((((W.setCell ⟨G,0,none⟩ v0).setCell ⟨G,1,none⟩ v1).setCell ⟨G,2,none⟩ v2).setCell ⟨G,3,none⟩ v3).setCell ⟨G,4,none⟩ v4).heap[G]?=some (.cells #[v0,v1,v2,v3,v4] T (0,0)):=
 aax _ G 4 _ _ v4 (aax _ G 3 _ _ v3 (aax _ G 2 _ _ v2 (aax _ G 1 _ _ v1 (aax _ G 0 _ _ v0 h))))
def Pa(a:Option Addr)(cap p:Nat):Option Addr:=match a with
 |some ad=>if cap=p then some ad else some (ad.add p)
 |none=>none
theorem ins_any(h:dW w r a cap bs s)(hF:bR w)(hr:2<=r)(n k:Int):
 Calls prog 114 #[.pointer (some ⟨r,0,none⟩),.int .i64 n,.int .i64 k] w fun e w'=>e=.returned (dC (lH bs s))/\aN w r a cap bs (xV bs n k s) w':=by
 have H:=hd h;have HF:=hd hF;have hnx0:=h.nx;obtain ⟨X,hX⟩:=Haa (lH bs s);obtain ⟨sI,PR⟩:=Haa (xV bs n k s);rw [hX.out,PR.out];clear h hF;go_enter func114,ntmps114;go_upto_region 1 with fail;obtain ⟨w0,iv⟩:=Haa (w.alloc (.cells #[.int .i64 0,.int .i64 0,.int .i64 0,.int .i64 0,.int .i64 0] 35));rw [iv.out];have ai:Below w.heap.size w w0:=by rw [<-iv.out];exact aA w _
 have h0:=H.out.below ai;have qd:Hid (bR w0):=hd (HF.out.kept ai);have aX:Hid (w0.heap[w.heap.size]?=some (.cells #[.int .i64 0,.int .i64 0,.int .i64 0,.int .i64 0,.int .i64 0] 35 (0,0))):=hd (by rw [<-iv.out];exact aae w _);obtain ⟨G,hG⟩:=Haa w.heap.size;rw [hG.out]at aX⊢;have PS:r<G:=by rw [<-hG.out];exact H.out.lt
 have k2:=h0.cells.2.2.1;have O0:Hid (aN w r a cap bs s w0):=hd ⟨h0,Mod.aS _ ai⟩;clear ai iv;replace h0:=hd h0;go_upto_region 2 with fail;clear k2;clear h0;have c1:=vV O0.out.1 1 ⟨by omega,by omega⟩;have c8:=Jt O0.out.1 8 ⟨by omega,by omega⟩;have HX:Hid (lH bs s=⟨((az bs 1 s).1:Nat),((az bs 1 (az bs 1 s).2).1:Nat),((az bs 1 (az bs 1 (az bs 1 s).2).2).1:Nat),((az bs 1 (az bs 1 (az bs 1 (az bs 1 s).2).2).2).1:Nat),wrap64 ((az bs 8 (az bs 1 (az bs 1 (az bs 1 (az bs 1 s).2).2).2).2).1:Nat)⟩):=hd rfl;have HY:Hid (oG bs s=(az bs 8 (az bs 1 (az bs 1 (az bs 1 (az bs 1 s).2).2).2).2).2):=hd rfl;have HM:Hid (Mod (fun k=>k=r) w0 w0):=hd (Mod.refl _ _);go_upto_region 3 with(first|(go_at_call 111;refine c1.mono ?_;rintro e w1 ⟨rfl,o1⟩;replace HM:=hd (HM.out.trans o1.2 (fun _ h=> .inl h));replace O0:=hd (O0.out.trans o1);clear o1 c1 c8;have c1:=vV O0.out.1 1 ⟨by omega,by omega⟩;have c8:=Jt O0.out.1 8 ⟨by omega,by omega⟩)|(go_at_call 113;refine c8.mono ?_;rintro e w2 ⟨rfl,o1⟩;replace HM:=hd (HM.out.trans o1.2 (fun _ h=> .inl h));replace O0:=hd (O0.out.trans o1);clear o1 c1 c8));have gJ:=raw_nx (bs:=bs) (s:=s) (by exact hnx0);rw [HY.out]at gJ;have HI:Hid (xV bs n k s=eB (oG bs s) (wrong (lH bs s) n k).1 (s.nx+Eo bs s (wrong (lH bs s) n k).1)):=hd rfl;have ui:Hid (∀E,Eo bs s E=if E=13 then 4 else(je (qJ bs s.nx (oG bs s).nx)).2):=hd fun _=>rfl
 rw [HX.out,HY.out]at HI;rw [HY.out]at ui;rw [HX.out]at hX;rw [PR.out]at HI;clear HX HY PR;generalize Eo bs s=PL at*
 generalize (az bs 8 (az bs 1 (az bs 1 (az bs 1 (az bs 1 s).2).2).2).2).1=v5 at*
 generalize (az bs 8 (az bs 1 (az bs 1 (az bs 1 (az bs 1 s).2).2).2).2).2=s5 at*
 generalize (az bs 1 (az bs 1 (az bs 1 (az bs 1 s).2).2).2).1=v4 at*
 generalize (az bs 1 (az bs 1 (az bs 1 s).2).2).1=v3 at*
 generalize (az bs 1 (az bs 1 s).2).1=v2 at*
 generalize (az bs 1 s).1=v1 at*
 generalize wrap64 (v5:Int)=im at*
 obtain ⟨w3,iH⟩:=Haa (w2.alloc (.cells #[.int .i64 (v1:Int),.int .i64 (v2:Int),.int .i64 (v3:Int),.int .i64 (v4:Int),.int .i64 im] 35));rw [iH.out];have eH:Below w2.heap.size w2 w3:=by rw [<-iH.out];exact aA w2 _
 have bY:Hid (w3.heap[w2.heap.size]?=some (.cells #[.int .i64 (v1:Int),.int .i64 (v2:Int),.int .i64 (v3:Int),.int .i64 (v4:Int),.int .i64 im] 35 (0,0))):=hd (by rw [<-iH.out];exact aae w2 _)
 have HG:Hid (w3.heap[G]?=some (.cells #[.int .i64 0,.int .i64 0,.int .i64 0,.int .i64 0,.int .i64 0] 35 (0,0))):=hd (by
  have h1:=(aab.1 aX.out).1;rw [eH.block G (aam h1 HM.out.size),HM.out.block G h1 (by omega)]
  exact aX.out)
 have hGG:G<w2.heap.size:=aam (aab.1 aX.out).1 HM.out.size;have yt:Hid (bR w3):=hd ((qd.out.mod HM.out (by omega)).kept eH);have O3:Hid (aN w r a cap bs s5 w3):=hd (O0.out.after eH);obtain ⟨G2,yw⟩:=Haa w2.heap.size;rw [yw.out]at bY hGG⊢;clear eH iH aX HM O0 yw qd;have wL:=MJ ⟨v1,v2,v3,v4,im⟩ n k w3 yt.out;unfold dC at wL;simp only at wL;have x0:=aaa w3 G2 0 _ _ _ bY.out;have x1:=aaa w3 G2 1 _ _ _ bY.out;have x2:=aaa w3 G2 2 _ _ _ bY.out;have x3:=aaa w3 G2 3 _ _ _ bY.out;have x4:=aaa w3 G2 4 _ _ _ bY.out;simp at x0 x1 x2 x3 x4;generalize (wrong ⟨v1,v2,v3,v4,im⟩ n k).1=E at*
 go_upto_region 4 with(go_at_call 78;refine wL.mono ?_;rintro e w4 ⟨rfl,wQ⟩);clear x0 x1 x2 x3 x4 wL;replace bY:Hid (w4.heap[G2]?=some (.cells #[.int .i64 (v1:Int),.int .i64 (v2:Int),.int .i64 (v3:Int),.int .i64 (v4:Int),.int .i64 im] 35 (0,0))):=hd (by rw [wQ.block G2 (aab.1 bY.out).1];exact bY.out);replace HG:Hid (w4.heap[G]?=some (.cells #[.int .i64 0,.int .i64 0,.int .i64 0,.int .i64 0,.int .i64 0] 35 (0,0))):=hd (by rw [wQ.block G (aab.1 HG.out).1];exact HG.out);replace yt:Hid (bR w4):=hd (yt.out.kept wQ);replace O3:Hid (aN w r a cap bs s5 w4):=hd (O3.out.after wQ);clear wQ;by_cases hE:E=0
 ·have HR:Hid (aN w r a cap bs sI w4):=hd (by rw [HI.out,hE,tD];exact O3.out);subst hE;have x0:=aaa w4 G2 0 _ _ _ bY.out;have x1:=aaa w4 G2 1 _ _ _ bY.out;have x2:=aaa w4 G2 2 _ _ _ bY.out;have x3:=aaa w4 G2 3 _ _ _ bY.out;have x4:=aaa w4 G2 4 _ _ _ bY.out;have g0:=aaa w4 G 0 _ _ _ HG.out;have g1:=aaa w4 G 1 _ _ _ HG.out;have g2:=aaa w4 G 2 _ _ _ HG.out;have g3:=aaa w4 G 3 _ _ _ HG.out;have g4:=aaa w4 G 4 _ _ _ HG.out;simp at x0 x1 x2 x3 x4 g0 g1 g2 g3 g4;have fr:∀i,w4.frozen? ⟨G,i,none⟩=false:=fun i=>by simp [World.frozen?,HG.out]
  have HZ:Hid (aN w r a cap bs sI (((((w4.setCell ⟨G,0,none⟩ (.int .i64 (v1:Int))).setCell ⟨G,1,none⟩ (.int .i64 (v2:Int))).setCell ⟨G,2,none⟩ (.int .i64 (v3:Int))).setCell ⟨G,3,none⟩ (.int .i64 (v4:Int))).setCell ⟨G,4,none⟩ (.int .i64 im))):=hd
   (((((HR.out.put H.out (aaB hG.out) _ _).put H.out (aaB hG.out) _ _).put H.out (aaB hG.out) _ _).put H.out (aaB hG.out) _ _).put H.out (aaB hG.out) _ _)
  have HH:=hd (FB (v0:=.int .i64 (v1:Int)) (v1:=.int .i64 (v2:Int)) (v2:=.int .i64 (v3:Int)) (v3:=.int .i64 (v4:Int)) (v4:=.int .i64 im) HG.out);go_wp2_with fail;obtain rfl:X=⟨v1,v2,v3,v4,im⟩:=hX.out.symm;generalize (((((w4.setCell ⟨G,0,none⟩ (.int .i64 (v1:Int))).setCell ⟨G,1,none⟩ (.int .i64 (v2:Int))).setCell ⟨G,2,none⟩ (.int .i64 (v3:Int))).setCell ⟨G,3,none⟩ (.int .i64 (v4:Int))).setCell ⟨G,4,none⟩ (.int .i64 im))=WZ at*
  have c0:=aaa WZ G 0 _ _ _ HH.out;have c1:=aaa WZ G 1 _ _ _ HH.out;have c2:=aaa WZ G 2 _ _ _ HH.out;have c3:=aaa WZ G 3 _ _ _ HH.out;have c4:=aaa WZ G 4 _ _ _ HH.out;simp at c0 c1 c2 c3 c4
  (try simp only [Exit.inBlock,Exit.then])
  refine aar (v:=dC ⟨v1,v2,v3,v4,im⟩) ?_ rfl ⟨rfl,HZ.out⟩;simp [results,results114,go_sem,dC,c0,c1,c2,c3,c4]
 ·have CM:(E==0)=false:=by simpa using hE
  have k0:=O3.out.1.cells.1;have k2:=O3.out.1.cells.2.2.1;have hle:=O3.out.1.le;have iP:=O3.out.1.room;have q1:(s.nx:Int)<=(s5.nx:Int):=by omega
  have q2:(s5.nx:Int)<=(bs.length:Int):=by omega
  have q3:(s5.nx:Int)<=(cap:Int):=by omega
  have hPL:0<=PL E/\PL E<=12:=by
   rw [ui.out];split
   ·omega
   ·have h1:=SP (qJ bs s.nx s5.nx);have h2:=zL gJ.1 gJ.2.1;omega
  obtain ⟨AP,PT,Er⟩:∃AP,Hid (∀ad,a=some ad->(if cap=s.nx then some ad else some (ad.add s.nx))=AP)/\Hid ((a=none->AP=none)/\Calls prog 138 #[.slice AP (s5.nx-s.nx) (cap-s.nx),.int .i64 E] w4.drew fun e w'=>e=.returned (.int .i64 (PL E))/\Below w4.heap.size w4 w'):=by
   refine ⟨Pa a cap s.nx,hd (fun ad h=>by rw [h];rfl),hd ⟨fun h=>by rw [h];rfl, ?_⟩⟩;have aj:Below w4.heap.size w4 w4.drew:=ck w4 1;have hl:=zL gJ.1 gJ.2.1;have GZ:mI w4.drew (Pa a cap s.nx) (qJ bs s.nx s5.nx):=by
    by_cases hz:s.nx<s5.nx
    ·obtain ⟨b,o,rfl,hc⟩:=Rd.cut O3.out.1.rd gJ.1 gJ.2.1 hz;unfold Pa;simp only
     rw [aaf (by omega),kO];exact mI.of_rd (hc.below aj)
    ·intro i hi;omega
   have hp:=ML _ (cap-s.nx) (qJ bs s.nx s5.nx) E w4.drew GZ (yt.out.kept aj) (fun i=>by
    by_cases hi:i<s5.nx-s.nx
    ·rw [DX hi];exact H.out.byte _
    ·rw [aac,aas (by omega)];decide) (by omega)
   rw [hl,<-ui.out]at hp;exact hp.mono fun e w' ⟨he,hb⟩=>⟨he,aj.trans hb⟩
  have G3:Hid (∀W,Below w4.heap.size w4 W->Calls prog 112 #[.pointer (some ⟨r,0,none⟩),.int .i64 E,.int .i64 (s.nx+PL E)] W fun e w'=>e=.returned (.tuple #[])/\aN W r a cap bs sI w'):=hd (by
   intro W hW;have:=tC (O3.out.after hW).1 E (s.nx+PL E);rw [<-HI.out]at this
   exact this)
  have mg:Hid (∀W W',Below w4.heap.size w4 W->aN W r a cap bs sI W'->aN w r a cap bs sI W'/\W'.heap[G2]?=some (.cells #[.int .i64 (v1:Int),.int .i64 (v2:Int),.int .i64 (v3:Int),.int .i64 (v4:Int),.int .i64 im] 35 (0,0))/\W'.heap[G]?=some (.cells #[.int .i64 0,.int .i64 0,.int .i64 0,.int .i64 0,.int .i64 0] 35 (0,0))):=hd (by
   intro W W' hW ho;have l2:=(aab.1 bY.out).1;have l1:=(aab.1 HG.out).1;refine ⟨(O3.out.after hW).trans ho, ?_, ?_⟩
   ·rw [ho.2.block G2 (aam l2 hW.size) (by omega),hW.block G2 l2];exact bY.out
   ·rw [ho.2.block G (aam l1 hW.size) (by omega),hW.block G l1]
    exact HG.out)
  clear HI ui yt bY HG O3 HF;generalize PL E=D at*
  obtain ⟨Z,hZ⟩:∃Z,(s.nx:Int)+D=Z:=⟨_,rfl⟩;have hZ2:IntKind.i64.wrap ((s.nx:Int)+D)=Z:=by rw [hZ,abG];omega
  rw [hZ]at G3;clear hZ;go_upto_region 5 with fail;have Es:=Er.out.2;have gZ:s5.nx-s.nx<=12:=by omega
  have Oc:Hid (a=none->AP=none):=hd Er.out.1;clear Er;replace gJ:=hd gJ
  cases a with
  |none=>
   obtain rfl:AP=none:=Oc.out rfl;clear PT Oc
   go_region_with (first|(go_at_call 138;refine Es.mono ?_;rintro e w5 ⟨rfl,CN⟩)|(go_at_call 112;with_reducible refine (G3.out w5 CN).mono ?_;rintro e w6 ⟨rfl,o6⟩))
   ·obtain ⟨HR,bY,HG⟩:=mg.out w5 w6 CN o6;replace HR:=hd HR;replace bY:=hd bY;replace HG:=hd HG;have x0:=aaa w6 G2 0 _ _ _ bY.out;have x1:=aaa w6 G2 1 _ _ _ bY.out;have x2:=aaa w6 G2 2 _ _ _ bY.out;have x3:=aaa w6 G2 3 _ _ _ bY.out;have x4:=aaa w6 G2 4 _ _ _ bY.out;have g0:=aaa w6 G 0 _ _ _ HG.out;have g1:=aaa w6 G 1 _ _ _ HG.out;have g2:=aaa w6 G 2 _ _ _ HG.out;have g3:=aaa w6 G 3 _ _ _ HG.out;have g4:=aaa w6 G 4 _ _ _ HG.out;simp at x0 x1 x2 x3 x4 g0 g1 g2 g3 g4;have fr:∀i,w6.frozen? ⟨G,i,none⟩=false:=fun i=>by simp [World.frozen?,HG.out]
    have HZ:Hid (aN w r none cap bs sI (((((w6.setCell ⟨G,0,none⟩ (.int .i64 (v1:Int))).setCell ⟨G,1,none⟩ (.int .i64 (v2:Int))).setCell ⟨G,2,none⟩ (.int .i64 (v3:Int))).setCell ⟨G,3,none⟩ (.int .i64 (v4:Int))).setCell ⟨G,4,none⟩ (.int .i64 im))):=hd
     (((((HR.out.put H.out (aaB hG.out) _ _).put H.out (aaB hG.out) _ _).put H.out (aaB hG.out) _ _).put H.out (aaB hG.out) _ _).put H.out (aaB hG.out) _ _)
    have HH:=hd (FB (v0:=.int .i64 (v1:Int)) (v1:=.int .i64 (v2:Int)) (v2:=.int .i64 (v3:Int)) (v3:=.int .i64 (v4:Int)) (v4:=.int .i64 im) HG.out);go_wp2_with fail;obtain rfl:X=⟨v1,v2,v3,v4,im⟩:=hX.out.symm;generalize (((((w6.setCell ⟨G,0,none⟩ (.int .i64 (v1:Int))).setCell ⟨G,1,none⟩ (.int .i64 (v2:Int))).setCell ⟨G,2,none⟩ (.int .i64 (v3:Int))).setCell ⟨G,3,none⟩ (.int .i64 (v4:Int))).setCell ⟨G,4,none⟩ (.int .i64 im))=WZ at*
    have c0:=aaa WZ G 0 _ _ _ HH.out;have c1:=aaa WZ G 1 _ _ _ HH.out;have c2:=aaa WZ G 2 _ _ _ HH.out;have c3:=aaa WZ G 3 _ _ _ HH.out;have c4:=aaa WZ G 4 _ _ _ HH.out;simp at c0 c1 c2 c3 c4
    (try simp only [Exit.inBlock,Exit.then])
    refine aar (v:=dC ⟨v1,v2,v3,v4,im⟩) ?_ rfl ⟨rfl,HZ.out⟩;simp [results,results114,go_sem,dC,c0,c1,c2,c3,c4]
   ·obtain ⟨HR,bY,HG⟩:=mg.out w5 w6 CN o6;replace HR:=hd HR;replace bY:=hd bY;replace HG:=hd HG;have x0:=aaa w6 G2 0 _ _ _ bY.out;have x1:=aaa w6 G2 1 _ _ _ bY.out;have x2:=aaa w6 G2 2 _ _ _ bY.out;have x3:=aaa w6 G2 3 _ _ _ bY.out;have x4:=aaa w6 G2 4 _ _ _ bY.out;have g0:=aaa w6 G 0 _ _ _ HG.out;have g1:=aaa w6 G 1 _ _ _ HG.out;have g2:=aaa w6 G 2 _ _ _ HG.out;have g3:=aaa w6 G 3 _ _ _ HG.out;have g4:=aaa w6 G 4 _ _ _ HG.out;simp at x0 x1 x2 x3 x4 g0 g1 g2 g3 g4;have fr:∀i,w6.frozen? ⟨G,i,none⟩=false:=fun i=>by simp [World.frozen?,HG.out]
    have HZ:Hid (aN w r none cap bs sI (((((w6.setCell ⟨G,0,none⟩ (.int .i64 (v1:Int))).setCell ⟨G,1,none⟩ (.int .i64 (v2:Int))).setCell ⟨G,2,none⟩ (.int .i64 (v3:Int))).setCell ⟨G,3,none⟩ (.int .i64 (v4:Int))).setCell ⟨G,4,none⟩ (.int .i64 im))):=hd
     (((((HR.out.put H.out (aaB hG.out) _ _).put H.out (aaB hG.out) _ _).put H.out (aaB hG.out) _ _).put H.out (aaB hG.out) _ _).put H.out (aaB hG.out) _ _)
    have HH:=hd (FB (v0:=.int .i64 (v1:Int)) (v1:=.int .i64 (v2:Int)) (v2:=.int .i64 (v3:Int)) (v3:=.int .i64 (v4:Int)) (v4:=.int .i64 im) HG.out);go_wp2_with fail;obtain rfl:X=⟨v1,v2,v3,v4,im⟩:=hX.out.symm;generalize (((((w6.setCell ⟨G,0,none⟩ (.int .i64 (v1:Int))).setCell ⟨G,1,none⟩ (.int .i64 (v2:Int))).setCell ⟨G,2,none⟩ (.int .i64 (v3:Int))).setCell ⟨G,3,none⟩ (.int .i64 (v4:Int))).setCell ⟨G,4,none⟩ (.int .i64 im))=WZ at*
    have c0:=aaa WZ G 0 _ _ _ HH.out;have c1:=aaa WZ G 1 _ _ _ HH.out;have c2:=aaa WZ G 2 _ _ _ HH.out;have c3:=aaa WZ G 3 _ _ _ HH.out;have c4:=aaa WZ G 4 _ _ _ HH.out;simp at c0 c1 c2 c3 c4
    (try simp only [Exit.inBlock,Exit.then])
    refine aar (v:=dC ⟨v1,v2,v3,v4,im⟩) ?_ rfl ⟨rfl,HZ.out⟩;simp [results,results114,go_sem,dC,c0,c1,c2,c3,c4]
  |some ad=>
   have eAP:=PT.out ad rfl;clear PT Oc
   go_region_with (first|(go_at_call 138;refine Es.mono ?_;rintro e w5 ⟨rfl,CN⟩)|(go_at_call 112;with_reducible refine (G3.out w5 CN).mono ?_;rintro e w6 ⟨rfl,o6⟩))
   ·obtain ⟨HR,bY,HG⟩:=mg.out w5 w6 CN o6;replace HR:=hd HR;replace bY:=hd bY;replace HG:=hd HG;have x0:=aaa w6 G2 0 _ _ _ bY.out;have x1:=aaa w6 G2 1 _ _ _ bY.out;have x2:=aaa w6 G2 2 _ _ _ bY.out;have x3:=aaa w6 G2 3 _ _ _ bY.out;have x4:=aaa w6 G2 4 _ _ _ bY.out;have g0:=aaa w6 G 0 _ _ _ HG.out;have g1:=aaa w6 G 1 _ _ _ HG.out;have g2:=aaa w6 G 2 _ _ _ HG.out;have g3:=aaa w6 G 3 _ _ _ HG.out;have g4:=aaa w6 G 4 _ _ _ HG.out;simp at x0 x1 x2 x3 x4 g0 g1 g2 g3 g4;have fr:∀i,w6.frozen? ⟨G,i,none⟩=false:=fun i=>by simp [World.frozen?,HG.out]
    have HZ:Hid (aN w r (some ad) cap bs sI (((((w6.setCell ⟨G,0,none⟩ (.int .i64 (v1:Int))).setCell ⟨G,1,none⟩ (.int .i64 (v2:Int))).setCell ⟨G,2,none⟩ (.int .i64 (v3:Int))).setCell ⟨G,3,none⟩ (.int .i64 (v4:Int))).setCell ⟨G,4,none⟩ (.int .i64 im))):=hd
     (((((HR.out.put H.out (aaB hG.out) _ _).put H.out (aaB hG.out) _ _).put H.out (aaB hG.out) _ _).put H.out (aaB hG.out) _ _).put H.out (aaB hG.out) _ _)
    have HH:=hd (FB (v0:=.int .i64 (v1:Int)) (v1:=.int .i64 (v2:Int)) (v2:=.int .i64 (v3:Int)) (v3:=.int .i64 (v4:Int)) (v4:=.int .i64 im) HG.out);go_wp2_with fail;obtain rfl:X=⟨v1,v2,v3,v4,im⟩:=hX.out.symm;generalize (((((w6.setCell ⟨G,0,none⟩ (.int .i64 (v1:Int))).setCell ⟨G,1,none⟩ (.int .i64 (v2:Int))).setCell ⟨G,2,none⟩ (.int .i64 (v3:Int))).setCell ⟨G,3,none⟩ (.int .i64 (v4:Int))).setCell ⟨G,4,none⟩ (.int .i64 im))=WZ at*
    have c0:=aaa WZ G 0 _ _ _ HH.out;have c1:=aaa WZ G 1 _ _ _ HH.out;have c2:=aaa WZ G 2 _ _ _ HH.out;have c3:=aaa WZ G 3 _ _ _ HH.out;have c4:=aaa WZ G 4 _ _ _ HH.out;simp at c0 c1 c2 c3 c4
    (try simp only [Exit.inBlock,Exit.then])
    refine aar (v:=dC ⟨v1,v2,v3,v4,im⟩) ?_ rfl ⟨rfl,HZ.out⟩;simp [results,results114,go_sem,dC,c0,c1,c2,c3,c4]
   ·obtain ⟨HR,bY,HG⟩:=mg.out w5 w6 CN o6;replace HR:=hd HR;replace bY:=hd bY;replace HG:=hd HG;have x0:=aaa w6 G2 0 _ _ _ bY.out;have x1:=aaa w6 G2 1 _ _ _ bY.out;have x2:=aaa w6 G2 2 _ _ _ bY.out;have x3:=aaa w6 G2 3 _ _ _ bY.out;have x4:=aaa w6 G2 4 _ _ _ bY.out;have g0:=aaa w6 G 0 _ _ _ HG.out;have g1:=aaa w6 G 1 _ _ _ HG.out;have g2:=aaa w6 G 2 _ _ _ HG.out;have g3:=aaa w6 G 3 _ _ _ HG.out;have g4:=aaa w6 G 4 _ _ _ HG.out;simp at x0 x1 x2 x3 x4 g0 g1 g2 g3 g4;have fr:∀i,w6.frozen? ⟨G,i,none⟩=false:=fun i=>by simp [World.frozen?,HG.out]
    have HZ:Hid (aN w r (some ad) cap bs sI (((((w6.setCell ⟨G,0,none⟩ (.int .i64 (v1:Int))).setCell ⟨G,1,none⟩ (.int .i64 (v2:Int))).setCell ⟨G,2,none⟩ (.int .i64 (v3:Int))).setCell ⟨G,3,none⟩ (.int .i64 (v4:Int))).setCell ⟨G,4,none⟩ (.int .i64 im))):=hd
     (((((HR.out.put H.out (aaB hG.out) _ _).put H.out (aaB hG.out) _ _).put H.out (aaB hG.out) _ _).put H.out (aaB hG.out) _ _).put H.out (aaB hG.out) _ _)
    have HH:=hd (FB (v0:=.int .i64 (v1:Int)) (v1:=.int .i64 (v2:Int)) (v2:=.int .i64 (v3:Int)) (v3:=.int .i64 (v4:Int)) (v4:=.int .i64 im) HG.out);go_wp2_with fail;obtain rfl:X=⟨v1,v2,v3,v4,im⟩:=hX.out.symm;generalize (((((w6.setCell ⟨G,0,none⟩ (.int .i64 (v1:Int))).setCell ⟨G,1,none⟩ (.int .i64 (v2:Int))).setCell ⟨G,2,none⟩ (.int .i64 (v3:Int))).setCell ⟨G,3,none⟩ (.int .i64 (v4:Int))).setCell ⟨G,4,none⟩ (.int .i64 im))=WZ at*
    have c0:=aaa WZ G 0 _ _ _ HH.out;have c1:=aaa WZ G 1 _ _ _ HH.out;have c2:=aaa WZ G 2 _ _ _ HH.out;have c3:=aaa WZ G 3 _ _ _ HH.out;have c4:=aaa WZ G 4 _ _ _ HH.out;simp at c0 c1 c2 c3 c4
    (try simp only [Exit.inBlock,Exit.then])
    refine aar (v:=dC ⟨v1,v2,v3,v4,im⟩) ?_ rfl ⟨rfl,HZ.out⟩;simp [results,results114,go_sem,dC,c0,c1,c2,c3,c4]
end
theorem insCells_one(x:Ins):∀u∈rS x,u.oneCell'=true:=by
 intro u hu;simp only [rS,List.mem_cons,List.not_mem_nil,or_false]at hu;rcases hu with rfl|rfl|rfl|rfl|rfl<;>rfl
def Pb(w:World)(r:Nat)(a:Option Addr)(cap:Nat)(bs:List Nat)(K:Int)(p n:Nat)(wr:World)(a1:Option Addr)(c1:Nat)(l:List Ins)(s:St):Prop:=
 lN w r a cap bs s wr 35 5 a1 l.length c1 (jK l)/\cL (GD K bs p) s (iQ (fun _=>GA n K) (n-l.length) l bs s.nx)/\(s.e=0->n<=256)
def Od(w:World)(r:Nat)(a:Option Addr)(cap:Nat)(bs:List Nat)(K:Int)(p:Nat)(a1:Option Addr)(c1:Nat)(l:List Ins)(w':World):Prop:=
 ∃s,lN w r a cap bs s w' 35 5 a1 l.length c1 (jK l)/\cL (GD K bs p) s (vZ l bs s.nx)/\l.length<=65536
section
variable{w:World} {r:Nat} {a:Option Addr} {cap:Nat} {bs:List Nat} {s:St}
theorem program_any(h:dW w r a cap bs s)(hF:bR w)(hr:2<=r)(h0:s.e=0/\s.at_=0)(K:Int):
 Calls prog 86 #[.pointer (some ⟨r,0,none⟩),.int .i64 K] w fun e w'=>∃a1 c1 l,e=.returned (.slice a1 (List.length l) c1)/\Od w r a cap bs K s.nx a1 c1 l w':=by
 have hc:=vV h 2 ⟨by omega,by omega⟩;have hl:=vW (s:=s) h.byte 2 (by omega);have H:=hd h;have HF:=hd hF
 have HI:Hid (∀W,aN w r a cap bs (eB (az bs 2 s).2 (wB (az bs 2 s).1) (az bs 2 s).2.fr) W->Pb w r a cap bs K s.nx (az bs 2 s).1 W none 0 [] (eB (az bs 2 s).2 (wB (az bs 2 s).1) (az bs 2 s).2.fr)):=hd (by
  intro W o;refine ⟨⟨o,Row.nil,fun k hk=>by cases hk⟩, ?_,fun hz=> ?_⟩
  ·exact cL.uh (k:=2) (f:=wB) (g:=fun n=>iQ (fun _=>GA n K) n []) (.inl ⟨h0.1,h0.2,rfl⟩)
  ·have h1:=(JI (k:=2) (f:=wB) hz).2.1;have h2:(cN bs 2 wB s).1=(az bs 2 s).1:=rfl;rw [h2]at h1;unfold wB at h1;split at h1
   ·simp at h1
   ·omega)
 have HE:Hid (wB (az bs 2 s).1=if 256<(az bs 2 s).1 then 3 else 0):=hd rfl;clear h h0 hF;generalize wB (az bs 2 s).1=E at*
 generalize (az bs 2 s).1=n at*
 generalize (az bs 2 s).2=s1 at*
 generalize s.nx=p at*
 go_enter func86,ntmps86;go_upto_region 2 with(go_at_call 111;refine hc.mono ?_;rintro e w1 ⟨rfl,ho⟩);replace ho:=hd ho;have k1:=ho.out.1.cells.2.1;have hf:=tC ho.out.1 3 s1.fr;clear hc;go_upto_if 10 with fail;go_cut [10]from 11 to 16 (fun v10 wy=>aN w r a cap bs (eB s1 E s1.fr) wy)
 case first=>
  by_cases h2:256<n
  ·have oM:(256:Int)<(n:Int):=by omega
   obtain rfl:E=3:=by rw [HE.out,aah h2]
   clear HE;go_wp2_with (go_at_call 112;refine hf.mono ?_;rintro e w2 ⟨rfl,jX⟩);go_meet;exact ho.out.trans jX
  ·have oM:(n:Int)<=256:=by omega
   have XK:decide ((256:Int)<(n:Int))=false:=by simp;omega
   obtain rfl:E=0:=by rw [HE.out,aaf h2]
   clear HE;go_wp2_with fail;go_meet;rw [tD];exact ho.out
 case rest=>
 have HJ:=hd (HI.out _ hcut);clear HI hcut hf k1 ho HE;generalize eB s1 E s1.fr=s2 at*
 go_wp2_with fail;go_loopg [6,17,18,19,20,21,22,23,24,25,26,27,28,29,30,31,32] n (fun g v6 _ _ _ _ _ _ _ _ _ _ _ _ _ _ _ _ wr=>∃(l:List Ins) (len:Nat) (a1:Option Addr) (c1:Nat) (s':St),v6=.slice a1 len c1/\len+g=n/\Hid (l.length=len)/\Hid (Pb w r a cap bs K p n wr a1 c1 l s'))
 case atStart=>exact ⟨[],0,none,0,s2,rfl,by omega,hd rfl,HJ⟩
 case round=>
  clear HJ;obtain ⟨l,len,a1,c1,s',rfl,hlen,HL,HW⟩:=hrel;by_cases h0:gk=0
  ·subst h0;have dH:decide ((len:Int)<(n:Int))=false:=by simp;omega
   have tQ:(n:Int)<=(len:Int):=by omega
   have HE:Hid (∃l',Ending.returned (.slice a1 len c1)=.returned (.slice a1 (List.length l') c1)/\Od w r a cap bs K p a1 c1 l' wr):=hd (by
    refine ⟨l,by rw [HL.out],s',HW.out.1, ?_,by have:=HL.out;omega⟩;have:=HW.out.2.1;rw [show n-l.length=0 by have:=HL.out;omega]at this
    exact this)
   clear HW HL;go_wp2_with fail;go_ret;obtain ⟨l',h1,h2⟩:=HE.out;exact ⟨a1,c1,l',h1,h2⟩
  ·have af:(len:Int)<(n:Int):=by omega
   by_cases hz:s'.e=0
   ·have hf:=i_ HW.out.1.out.1 false (by simp [hz]);have Ae:=ins_any HW.out.1.out.1 (HF.out.mod HW.out.1.out.2 (by omega)) hr n K
    have HP:Hid (∀W,aN wr r a cap bs (xV bs n K s') W->∃a' c' w',(∀ty,(Builtin.append_ #[36,36] ty #[.slice a1 len c1,.slice (some ⟨W.heap.size,0,none⟩) 1 1]).run prog (W.alloc (.cells #[.int .i64 (lH bs s').op,.int .i64 (lH bs s').a,.int .i64 (lH bs s').b,.int .i64 (lH bs s').c,.int .i64 (lH bs s').dn] 35))=.ok (.slice a' (len+1) c') w')/\∃uW,Pb w r a cap bs K p n w' a' c' (l++[lH bs s']) uW):=hd (by
     intro W o;have h1:=HW.out.1.step H.out.lt o;rw [HL.out]at h1;obtain ⟨a',c',w',k1,k2⟩:=h1.push H.out underlying36 Tr rfl (by omega) (by omega) (rS (lH bs s')) rfl (insCells_one _);refine ⟨a',c',w',k1,xV bs n K s', ?_, ?_, ?_⟩
     ·rw [pCells_snoc,show(l++[lH bs s']).length=len+1 by simp [HL.out]];exact k2
     ·have aJ:=HW.out.2.1;have Ay:=HL.out;rw [show n-l.length=(n-(l.length+1))+1 by omega]at aJ;rw [show n-(l++[lH bs s']).length=n-(l.length+1) by simp];exact cL.ins (by omega) aJ hz HW.out.1.out.1.nx
     ·intro _
      exact HW.out.2.2 hz)
    clear HW h0 hz;generalize xV bs n K s'=s3 at*
    generalize lH bs s'=x at*
    obtain ⟨o0,o1,o2,o3,o4⟩:=x;unfold dC at Ae;simp only at Ae HP;go_wp2_with (first|(go_at_call 80;refine hf.mono ?_;rintro e w1 ⟨rfl,rfl⟩)|(go_at_call 114;refine Ae.mono ?_;rintro e w2 ⟨rfl,ho⟩;obtain ⟨a',c',w3,aO,uW,hI⟩:=HP.out w2 ho;replace aO:=hd aO)|(at_builtin;refine dZ rfl _ _ _ rfl _ _ _ _ rfl rfl aO.out ?_;clear aO));go_roundg (gk-1)
    case rel=>exact ⟨l++[⟨o0,o1,o2,o3,o4⟩],len+1,a',c',uW,rfl,by omega,hd (by rw [<-HL.out];simp),hd hI⟩
    case measure=>omega
   ·have hf:=i_ HW.out.1.out.1 true (by simp [hz])
    have HE:Hid (∃l',Ending.returned (.slice a1 len c1)=.returned (.slice a1 (List.length l') c1)/\Od w r a cap bs K p a1 c1 l' wr):=hd (by
     refine ⟨l,by rw [HL.out],s',HW.out.1, ?_,by have:=HL.out;omega⟩
     exact .inr ⟨hz,HW.out.2.1.bad hz⟩)
    clear HW HL h0 hz;go_wp2_with (go_at_call 80;refine hf.mono ?_;rintro e w1 ⟨rfl,rfl⟩);go_ret;obtain ⟨l',h1,h2⟩:=HE.out;exact ⟨a1,c1,l',h1,h2⟩
end
section
variable{P:Program}
def waits(l:List Oper)(j i:Nat):Bool:=match l[j]? with|some o=>o.after.any (fun e=>Region.binds .any e&&e.on==i)|none=>false
theorem FC{l:List Oper}{j i:Nat}(h:waits l j i=true):∃o,l[j]?=some o/\∃e∈o.after,Region.binds .any e=true/\e.on=i:=by
 unfold waits at h;split at h
 ·next o ho=>
  obtain ⟨e,he,hb⟩:=Array.any_eq_true'.1 h;simp only [Bool.and_eq_true,beq_iff_eq]at hb;exact ⟨o,ho,e,he,hb.1,hb.2⟩
 ·cases h
def Cj(l:List Oper)(n:Nat):Bool:=
 l.all (fun o=>o.guard.isNone)&&(List.range n).all (fun i=>match l[i]? with|some o=>o.after.all (fun e=> !Region.binds .any e||decide (e.on<i))|none=>false)&&
 (match l[n]? with|some o=>o.after.all (fun e=> !Region.binds .any e||decide (e.on<n))&&(List.range n).all (fun i=>waits l n i||(List.range n).any (fun j=>decide (i<j)&&waits l j i))|none=>false)
theorem uL(L:Array Bool)(i:Nat)(d:Bool)(h:i<L.size):(L.push false).getD i d=L.getD i d:=by
 simp [Array.getD_eq_getD_getElem?,Array.getElem?_push,Nat.ne_of_lt h]
theorem BN(L:Array Bool)(i:Nat)(h:L.size<=i):(L.push false).getD i false=false/\L.getD i false=false:=by
 constructor
 ·simp only [Array.getD_eq_getD_getElem?,Array.getElem?_push];split
  ·rfl
  ·rw [Array.getElem?_eq_none h];rfl
 ·simp [Array.getD_eq_getD_getElem?,Array.getElem?_eq_none h]
theorem BU{L:Array Bool}{i:Nat}(h:i<L.size):L.getD i true=L.getD i false:=by simp [Array.getD_eq_getD_getElem?,h]
theorem xM{l:List Oper}{n:Nat}(L:Array Bool)(hL:L.size=n)(i:Nat)(hi:i<n):i∈Region.ready .any l.toArray (L.push false)↔i∈Region.ready .any (l.take n).toArray L:=by
 rw [aa_,aa_,uL _ _ _ (by omega)];have e:(l.take n).toArray[i]?=l.toArray[i]?:=by simp [hi]
 have k:∀j,(L.push false).getD j false=L.getD j false:=fun j=>by
  rcases aaU j L.size with h|h
  ·exact uL _ _ _ h
  ·rw [(BN L j h).1,(BN L j h).2]
 simp only [e,k]
structure pN(l:List Oper)(n:Nat)(o:Oper):Prop where
 len:l.length=n+1
 at':l[n]?=some o
 bare:∀x∈l,x.guard=none
 up:∀i x,i<n->l[i]?=some x->∀e∈x.after,Region.binds .any e=true->e.on<i
 low:∀e∈o.after,Region.binds .any e=true->e.on<n
 all:∀i,i<n->waits l n i=true\/∃j,i<j/\j<n/\waits l j i=true
theorem Oe{l:List Oper}{n:Nat}{o:Oper}(h:Cj l n=true)(hl:l.length=n+1)(ho:l[n]?=some o):pN l n o:=by
 unfold Cj at h;simp only [Bool.and_eq_true,ho]at h;obtain ⟨⟨h1,h2⟩,h3,h4⟩:=h;refine ⟨hl,ho,fun x hx=>by simpa using aa5.1 h1 x hx,fun i x hi hx e he hb=> ?_,fun e he hb=> ?_,fun i hi=> ?_⟩
 ·have h5:=aa5.1 h2 i (abv.2 hi);simp only [hx]at h5;have h6:=Array.all_eq_true'.1 h5 e he;simpa [hb]using h6
 ·have h6:=Array.all_eq_true'.1 h3 e he;simpa [hb]using h6
 ·have h5:=aa5.1 h4 i (abv.2 hi);simp only [Bool.or_eq_true]at h5;rcases h5 with h5|h5
  ·exact .inl h5
  ·obtain ⟨j,hj,hw⟩:=List.any_eq_true.1 h5;simp only [Bool.and_eq_true,decide_eq_true_eq]at hw;exact .inr ⟨j,hw.1,abv.1 hj,hw.2⟩
def uX(l:List Oper)(n:Nat)(L:Array Bool):Prop:=∀j x,j<n->l[j]?=some x->L.getD j false=true->∀e∈x.after,Region.binds .any e=true->L.getD e.on false=true
theorem FO{L:Array Bool}{i j:Nat}(h:L.getD j false=true):(L.setIfInBounds i true).getD j false=true:=by
 by_cases iI:i=j
 ·subst iI;have af:i<L.size:=by
   rcases aaU i L.size with h'|h'
   ·exact h'
   ·rw [(BN L i h').2]at h;cases h
  rw [aat,aaR af];rfl
 ·rw [aat,aaJ iI,<-aat];exact h
theorem uX.set{l:List Oper}{n:Nat}{L:Array Bool}(h:uX l n L){i:Nat}(hi:i∈Region.ready .any (l.take n).toArray L):uX l n (L.setIfInBounds i true):=by
 intro j x hj hx hl e he hb;by_cases iI:i=j
 ·subst iI;obtain ⟨_,y,hy,aY⟩:=aa_.1 hi;have e1:(l.take n).toArray[i]?=some x:=by simp [hj,hx]
  obtain rfl:x=y:=aau (e1.symm.trans hy);exact FO (aY e he hb)
 ·rw [aat,aaJ iI,<-aat]at hl;exact FO (h j x hj hx hl e he hb)
section
variable{l:List Oper} {n:Nat} {o:Oper}
theorem FD(h:pN l n o)(L:Array Bool)(hL:L.size=n):∀i,i<n->L.getD i false=false->∃j,j<n/\j∈Region.ready .any (l.take n).toArray L:=by
 intro i
 induction i using Nat.strongRecOn with
 |_ i ih=>
  intro hi hf;have hlen:=h.len;obtain ⟨x,hx⟩:∃x,l[i]?=some x:=⟨_,aad (by omega)⟩;by_cases hr:∀e∈x.after,Region.binds .any e=true->L.getD e.on false=true
  ·refine ⟨i,hi,aa_.2 ⟨by rw [BU (by omega)];exact hf,x,by simp [hi,hx],hr⟩⟩
  ·obtain ⟨e,he,hb,bC⟩:∃e,∃_:e∈x.after,∃_:Region.binds .any e=true,¬L.getD e.on false=true:=by
    simpa only [Classical.not_forall]using hr
   have af:=h.up i x hi hx e he hb;exact ih e.on af (by omega) (by simpa using bC)
theorem BF(h:pN l n o)(L:Array Bool)(hL:L.size=n)(hc:uX l n L):n∈Region.ready .any l.toArray (L.push false)↔∀i,i<n->L.getD i false=true:=by
 rw [aa_];constructor
 ·rintro ⟨_,x,hx,aY⟩;have ex:x=o:=by
   have h1:=h.at';simp at hx;rw [hx]at h1;exact aau h1
  subst ex;have key:∀d i,n-i=d->i<n->L.getD i false=true:=by
   intro d
   induction d using Nat.strongRecOn with
   |_ d ih=>
    intro i hd hi;rcases h.all i hi with hw|⟨j,iI,hj,hw⟩
    ·obtain ⟨y,hy,e,he,hb,qg⟩:=FC hw;have ey:y=x:=aau (hy.symm.trans h.at');subst ey;have:=aY e he hb
     rwa [qg,uL _ _ _ (by omega)]at this
    ·obtain ⟨y,hy,e,he,hb,qg⟩:=FC hw;have:=hc j y hj hy (ih (n-j) (by omega) j rfl hj) e he hb
     rwa [qg]at this
  exact fun i hi=>key _ i rfl hi
 ·intro aY;refine ⟨by subst hL;rw [aat,Array.getElem?_push_size];rfl,o,by simpa using h.at',fun e he hb=> ?_⟩;have:=h.low e he hb;rw [uL _ _ _ (by omega)];exact aY _ this
theorem BO(h:pN l n o)(L:Array Bool){i:Nat}(hi:i∈Region.ready .any l.toArray L):i<n\/i=n:=by
 obtain ⟨_,x,hx,_⟩:=aa_.1 hi;have:=(aab.1 hx).1;have h1:=h.len;simp at this;omega
theorem MN(h:pN l n o)(L:Array Bool)(hL:L.size=n)(aY:∀i,i<n->L.getD i false=true):Region.ready .any l.toArray ((L.push false).setIfInBounds n true)=[]:=by
 rw [abl];intro i hi;have h1:=(aa_.1 hi).1;rcases BO h _ hi with h2|h2
 ·rw [aat,aaJ (by omega),<-aat,uL _ _ _ (by omega),BU (by omega),aY i h2]at h1
  cases h1
 ·subst h2;rw [aat,aaR (by simp [hL])]at h1
  cases h1
theorem Gd(L:Array Bool)(n:Nat):(∀i,i<n->L.getD i false=true)\/∃i,i<n/\L.getD i false=false:=by
 by_cases h:∃i,i<n/\L.getD i false=false
 ·exact .inr h
 ·refine .inl fun i hi=> ?_
  cases hb:L.getD i false with
  |true=>rfl
  |false=>exact absurd ⟨i,hi,hb⟩ h
variable{C:World->Prop} {Q:Exit->Act->World->Prop}
theorem FZ(h:pN l n o)(L:Array Bool)(hL:L.size=n)(aY:∀i,i<n->L.getD i false=true){a:Act}{w:World}(hw:wpList P l.toArray Q [o] a w)(f:Nat):
 wpOp P l.toArray Q n (wpAny P .any l.toArray Q f ((L.push false).setIfInBounds n true)) a w:=by
 have h0:l.toArray[n]?=some o:=by simpa using h.at'
 have h1:wpOp P l.toArray Q n (wpList P l.toArray Q []) a w:=by
  unfold wpOp;simp only [h0];exact hw
 refine wpOp_mono (fun a' w' hq=> ?_) h1;have hr:=MN h L hL aY
 cases f with
 |zero=>exact ⟨hr,hq⟩
 |succ f=>exact ⟨fun _=>hq,fun i hi=>by rw [hr]at hi;cases hi⟩
theorem ME(h:pN l n o):∀(f:Nat) (L:Array Bool) (a:Act) (w:World),L.size=n->uX l n L->C w->
 wpAnyQ P .any (l.take n).toArray C (fun a'=>∀w',C w'->wpList P l.toArray Q [o] a' w') f L a->wpAny P .any l.toArray Q (f+1) (L.push false) a w:=by
 have hlen:=h.len;intro f
 induction f with
 |zero=>
  intro L a w hL hc hC hq;have aY:∀i,i<n->L.getD i false=true:=by
   rcases Gd L n with h1|⟨i,hi,hf⟩
   ·exact h1
   ·obtain ⟨j,_,hj⟩:=FD h L hL i hi hf;rw [hq.1]at hj
    cases hj
  refine ⟨fun h0=> ?_,fun i hi=> ?_⟩
  ·have:=(BF h L hL hc).2 aY;rw [h0]at this
   cases this
  ·rcases BO h _ hi with h2|rfl
   ·have:=(xM L hL i h2).1 hi;rw [hq.1]at this
    cases this
   ·exact FZ h L hL aY (hq.2 w hC) 0
 |succ f ih=>
  intro L a w hL hc hC hq;refine ⟨fun h0=> ?_,fun i hi=> ?_⟩
  ·rcases Gd L n with aY|⟨i,hi,hf⟩
   ·have:=(BF h L hL hc).2 aY;rw [h0]at this
    cases this
   ·obtain ⟨j,hj,PU⟩:=FD h L hL i hi hf;have:=(xM (l:=l) L hL j hj).2 PU;rw [h0]at this
    cases this
  ·rcases BO h _ hi with h2|rfl
   ·have h3:=hq.2 i ((xM L hL i h2).1 hi);have h4:wpOp P (l.take n).toArray Q i (wpAny P .any l.toArray Q (f+1) ((L.setIfInBounds i true).push false)) a w:=
     wpOp_of_qOp hC (fun a' w' G4 hk=>ih (L.setIfInBounds i true) a' w' (by simp [hL]) (hc.set ((xM L hL i h2).1 hi)) G4 hk) h3
    have e:(L.push false).setIfInBounds i true=(L.setIfInBounds i true).push false:=by
     apply Array.ext_getElem?;intro j;by_cases hj:j=i
     ·subst hj;rw [aaR (by simp;omega),Array.getElem?_push_lt (by simp;omega)];simp
     ·rw [aaJ (by omega),Array.getElem?_push,Array.getElem?_push,aaJ (by omega)];simp
    rw [e];obtain ⟨x,hx⟩:∃x,l[i]?=some x:=⟨_,aad (by omega)⟩;have hb:x.guard=none:=h.bare x (aba hx);have w1:∀y,Region.wanted x y=true:=fun y=>by unfold Region.wanted;rw [hb]
    have e1:(l.take n).toArray[i]?=some x:=by simp [h2,hx]
    have e2:l.toArray[i]?=some x:=by simp [hx]
    unfold wpOp at h4⊢;simp only [e1,w1,if_true]at h4;simp only [e2,w1,if_true];exact h4
   ·have aY:=(BF h L hL hc).1 hi;have hr:Region.ready .any (l.take i).toArray L=[]:=by
     rw [abl];intro j hj;obtain ⟨h1,x,hx,_⟩:=aa_.1 hj;have af:=(aab.1 hx).1;simp at af;rw [BU (by omega),aY j (by omega)]at h1
     cases h1
    exact FZ h L hL aY (hq.1 hr w hC) (f+1)
end
theorem MO(m j:Nat):(Array.replicate m false).getD j false=false:=by
 simp only [Array.getD_eq_getD_getElem?,Array.getElem?_replicate];split<;>rfl
theorem Fx{id:Nat}{Q:Exit->Act->World->Prop}{a:Act}{w:World}{l:List Oper}{α:Type}(n:Nat){o:Oper}(f:α->World)(hm:P.follows .mixedOrders=true)(hB:Cj l n=true)(wR:Region.lexB .any (l.take n).toArray=true)(hl:l.length=n+1)(ho:l[n]?=some o)
 (p0:α)(h0:f p0=w.drew)(h:wpQuiet P (l.take n).toArray (fun w'=>∃p,w'=f p) (fun a'=>∀w',(∃p,w'=f p)->wpList P l.toArray Q [o] a' w') (l.take n) a):(Code.region id l.toArray true).wp P Q a w:=by
 refine wp_region_any hm ?_;simp only [Region.lexB,Bool.and_eq_true]at wR;have hn:(l.take n).length=n:=by simp;omega
 have H:=wpAnyQ_lex (C:=fun w'=>∃p,w'=f p) (md:=.any) wR.1 (l.take n) 0 (Array.replicate (l.take n).length false) a (by simp) (by simpa using wR.2) h;have H2:=ME (P:=P) (Q:=Q) (Oe hB hl ho) (l.take n).length (Array.replicate (l.take n).length false) a w.drew (by simp;omega) (fun j x _ _ hl=>by rw [MO]at hl;cases hl) ⟨p0,h0.symm⟩ H;rw [hn]at H2;have e:Array.replicate l.toArray.size false=(Array.replicate n false).push false:=by
  simp [hl,Array.replicate_succ]
 rw [e,show l.toArray.size=n+1 by simp [hl]];exact H2
end
def qK:List Int:=[1,256,2,1,64,1,0,8,1,0,4096,2]
def eQ(w:World):Prop:=∀i,i<12->w.cell? ⟨0,i,none⟩=some (.int .i64 (qK.getD i 0))
variable{w w':World}
theorem eQ.kept(h:eQ w)(hb:Below w.heap.size w w'):eQ w':=fun i hi=>(hb.cell (aaj w _ (h i hi))).trans (h i hi)
theorem eQ.mod{S:Nat->Prop}(h:eQ w)(hm:Mod S w w')(hs:¬S 0):eQ w':=fun i hi=>by
 have hc:=h i hi;rw [hm.cell (p:=⟨0,i,none⟩) (aaj w _ hc) hs];exact hc
def D8:Nat->Nat->Int
 |0=>fun n=>bf 1 256 n
 |1=>fun n=>bf 1 64 n
 |2=>fun n=>bf 0 8 n
 |_=>fun n=>bf 0 4096 n
def WM:Nat->Nat
 |0=>2
 |1=>1
 |2=>1
 |_=>2
def bD(bs:List Nat)(s:St):Nat->St
 |0=>s
 |i+1=>(cN bs (WM i) (D8 i) (bD bs s i)).2
def mi(bs:List Nat)(s:St)(i:Nat):Nat:=(cN bs (WM i) (D8 i) (bD bs s i)).1
def bL(bs:List Nat)(s:St)(i j:Nat):Int:=if j<i then(mi bs s j:Nat)else 0
structure fL(w:World)where
 val:World
 is:val=w
section
variable{w:World} {r:Nat} {a:Option Addr} {cap:Nat} {bs:List Nat} {s:St}
theorem numbers_any(h:dW w r a cap bs s)(hL:eQ w):
 Calls prog 83 #[.pointer (some ⟨r,0,none⟩)] w fun e w'=>e=.returned (.tuple #[.int .i64 (mi bs s 0:Nat),.int .i64 (mi bs s 1:Nat),.int .i64 (mi bs s 2:Nat),.int .i64 (mi bs s 3:Nat)])/\aN w r a cap bs (bD bs s 4) w':=by
 have H:=hd h;have ai:=aA w (.cells #[.int .i64 0,.int .i64 0,.int .i64 0,.int .i64 0] 61);have l0:=(hL.kept ai) 0 (by omega);have l1:=(hL.kept ai) 1 (by omega);have l2:=(hL.kept ai) 2 (by omega);have l3:=(hL.kept ai) 3 (by omega);have l4:=(hL.kept ai) 4 (by omega);have l5:=(hL.kept ai) 5 (by omega);have l6:=(hL.kept ai) 6 (by omega);have l7:=(hL.kept ai) 7 (by omega);have l8:=(hL.kept ai) 8 (by omega);have l9:=(hL.kept ai) 9 (by omega);have XL:=(hL.kept ai) 10 (by omega);have XM:=(hL.kept ai) 11 (by omega);simp only [qK,List.getD_cons_zero,List.getD_cons_succ]at l0 l1 l2 l3 l4 l5 l6 l7 l8 l9 XL XM;clear h hL;go_enter func83,ntmps83;go_upto_block 0 with fail;obtain ⟨w0,iv⟩:=Haa (w.alloc (.cells #[.int .i64 0,.int .i64 0,.int .i64 0,.int .i64 0] 61));rw [iv.out];obtain ⟨G,hG⟩:=Haa w.heap.size;rw [hG.out]
 have HI:Hid (aN w r a cap bs (bD bs s 0) w0/\w0.heap[G]?=some (.cells #[.int .i64 (bL bs s 0 0),.int .i64 (bL bs s 0 1),.int .i64 (bL bs s 0 2),.int .i64 (bL bs s 0 3)] 61 (0,0))):=hd (by
  rw [<-iv.out,<-hG.out]
  exact ⟨⟨H.out.below ai,Mod.aS _ ai⟩,aae w _⟩)
 clear ai iv l0 l1 l2 l3 l4 l5 l6 l7 l8 l9 XL XM;have PS:r<G:=by rw [<-hG.out];exact H.out.lt
 go_wp2_with fail;go_loopg [7,8,10,11,12,13,14,15,16,17,18,19,20,21,22,23,24,25,26,27,28,29,30,31,32,33,34] 4 (fun g _ _ v10 _ _ _ _ _ _ _ _ _ _ _ _ _ _ _ _ _ _ _ _ _ _ _ _ wr=>∃i:Nat,i+g=4/\v10=.int .i64 (i:Int)/\Hid (aN w r a cap bs (bD bs s i) wr/\wr.heap[G]?=some (.cells #[.int .i64 (bL bs s i 0),.int .i64 (bL bs s i 1),.int .i64 (bL bs s i 2),.int .i64 (bL bs s i 3)] 61 (0,0))))
 case atStart=>exact ⟨0,by omega,by go_num,HI⟩
 case round=>
  obtain ⟨i,hi,rfl,HW⟩:=hrel;clear HI;have hc:i=0\/i=1\/i=2\/i=3\/i=4:=by omega
  rcases hc with rfl|rfl|rfl|rfl|rfl
  ·obtain rfl:gk=4:=by omega
   have ix:∀W,(Instr.index 91 (.agg #[.int .i64 1,.int .i64 256,.int .i64 2,.int .i64 1,.int .i64 64,.int .i64 1,.int .i64 0,.int .i64 8,.int .i64 1,.int .i64 0,.int .i64 4096,.int .i64 2]) (.int .i64 0)).run prog W=.ok (.agg #[.int .i64 1,.int .i64 256,.int .i64 2]) W:=fun W=>by kernel_rfl
   go_upto_region 5 with fail;clear ix;obtain ⟨wa,cW⟩:=Haa (wr.alloc (.cells #[.int .i64 1,.int .i64 256,.int .i64 2] 90));rw [cW.out];have fe:Below wr.heap.size wr wa:=by rw [<-cW.out];exact aA wr _
   have HB:Hid (wa.heap[wr.heap.size]?=some (.cells #[.int .i64 1,.int .i64 256,.int .i64 2] 90 (0,0))):=hd (by rw [<-cW.out];exact aae wr _);have gK:=(aab.1 HW.out.2).1;have HG:Hid (wa.heap[G]?=some (.cells #[.int .i64 (bL bs s 0 0),.int .i64 (bL bs s 0 1),.int .i64 (bL bs s 0 2),.int .i64 (bL bs s 0 3)] 61 (0,0))):=hd (by rw [fe.block G gK];exact HW.out.2);have O1:Hid (aN w r a cap bs (bD bs s 0) wa):=hd (HW.out.1.after fe);have uY:=HW.out.1.1.lt;obtain ⟨B,hB⟩:=Haa wr.heap.size;rw [hB.out]at HB gK uY⊢;clear cW fe hB HW;have x2:=aaa wa B 2 _ _ _ HB.out;simp at x2;have hs:=vV O1.out.1 2 ⟨by omega,by omega⟩
   have HN:Hid (∀W1 W2,aN wa r a cap bs (az bs 2 (bD bs s 0)).2 W1->aN (W1.setCell ⟨G,0,none⟩ (.int .i64 ((az bs 2 (bD bs s 0)).1:Nat))) r a cap bs (eB (az bs 2 (bD bs s 0)).2 (bf 1 256 ((az bs 2 (bD bs s 0)).1:Nat)) (az bs 2 (bD bs s 0)).2.fr) W2->aN w r a cap bs (bD bs s 1) W2/\W2.heap[G]?=some (.cells #[.int .i64 (bL bs s 1 0),.int .i64 (bL bs s 1 1),.int .i64 (bL bs s 1 2),.int .i64 (bL bs s 1 3)] 61 (0,0))):=hd (by
    intro W1 W2 o1 o2;have o3:=(O1.out.trans o1).put H.out (aaB hG.out) 0 (.int .i64 ((az bs 2 (bD bs s 0)).1:Nat));refine ⟨o3.trans o2, ?_⟩;have e1:W1.heap[G]?=_:=(o1.2.block G (aab.1 HG.out).1 (by omega)).trans HG.out;have e2:=aax W1 G 0 _ _ (.int .i64 ((az bs 2 (bD bs s 0)).1:Nat)) e1;rw [o2.2.block G (aab.1 e2).1 (by omega),e2]
    rfl)
   have HK:Hid (∀W1,aN wa r a cap bs (az bs 2 (bD bs s 0)).2 W1->W1.heap[G]?=some (.cells #[.int .i64 (bL bs s 0 0),.int .i64 (bL bs s 0 1),.int .i64 (bL bs s 0 2),.int .i64 (bL bs s 0 3)] 61 (0,0))/\W1.heap[B]?=some (.cells #[.int .i64 1,.int .i64 256,.int .i64 2] 90 (0,0))/\aN w r a cap bs (az bs 2 (bD bs s 0)).2 W1):=hd (by
    intro W1 o1
    exact ⟨(o1.2.block G (aab.1 HG.out).1 (by omega)).trans HG.out,(o1.2.block B (aab.1 HB.out).1 (by omega)).trans HB.out,O1.out.trans o1⟩)
   have af:=vW (s:=bD bs s 0) O1.out.1.byte 2 (by omega);have g_:=vU ((az bs 2 (bD bs s 0)).1:Nat) 1 256;clear HB HG O1;generalize bf 1 256 ((az bs 2 (bD bs s 0)).1:Nat)=E at*
   generalize (az bs 2 (bD bs s 0)).1=v at*
   generalize (az bs 2 (bD bs s 0)).2=s1 at*
   have hf:Hid (∀W1,aN wa r a cap bs s1 W1->(∀n,W1.cell? ⟨G,n,none⟩=(#[.int .i64 (bL bs s 0 0),.int .i64 (bL bs s 0 1),.int .i64 (bL bs s 0 2),.int .i64 (bL bs s 0 3)]:Array Value)[n]?/\W1.frozen? ⟨G,n,none⟩=false)):=hd (fun W1 o1 n=>⟨aaa _ _ _ _ _ _ (HK.out W1 o1).1,by simp [World.frozen?,(HK.out W1 o1).1]⟩);go_upto_region 6 with(go_at_call 111;refine hs.mono ?_;rintro e w1 ⟨rfl,o1⟩;have g0:=((hf.out w1 o1) 0).1;have g1:=((hf.out w1 o1) 0).2;replace o1:=hd o1;simp at g0);obtain ⟨w2,dX⟩:=Haa (w1.setCell ⟨G,0,none⟩ (.int .i64 (v:Int)));rw [dX.out];have o2:aN w r a cap bs s1 w2:=by rw [<-dX.out];exact (HK.out w1 o1.out).2.2.put H.out (aaB hG.out) _ _
   have y0:w2.cell? ⟨G,0,none⟩=some (.int .i64 (v:Int)):=by
    rw [<-dX.out,aaa _ _ _ _ _ _ (aax w1 G 0 _ _ _ (HK.out w1 o1.out).1)];rfl
   have kr:w2.heap[B]?=some (.cells #[.int .i64 1,.int .i64 256,.int .i64 2] 90 (0,0)):=by
    rw [<-dX.out,aay _ _ _ _ (by simp only;omega)];exact (HK.out w1 o1.out).2.1
   have y1:=aaa w2 B 0 _ _ _ kr;have y2:=aaa w2 B 1 _ _ _ kr;simp at y1 y2;have y3:=o2.1.cells.2.1;have wS:Calls prog 112 #[.pointer (some ⟨r,0,none⟩),.int .i64 E,.int .i64 s1.fr] w2.drew fun e w'=>e=.returned (.tuple #[])/\aN w2 r a cap bs (eB s1 E s1.fr) w':=
    (tC (o2.1.below (ck w2 1)) E s1.fr).mono fun e w' ⟨he,ho⟩=>⟨he,ho.1,(Mod.aS _ (ck w2 1)).trans ho.2 (fun _ h=> .inl h)⟩
   have fM:Hid (∀W2,aN w2 r a cap bs (eB s1 E s1.fr) W2->_):=hd (fun W2 ho=>HN.out w1 W2 o1.out (by rw [dX.out];exact ho));clear HN HK hf o1 dX o2 kr g0 g1;have z0:∀p:fL w2.drew,p.val.cell? ⟨G,0,none⟩=some (.int .i64 (v:Int)):=fun p=>by rw [p.is];exact y0
   have z1:∀p:fL w2.drew,p.val.cell? ⟨B,0,none⟩=some (.int .i64 1):=fun p=>by rw [p.is];exact y1
   have z2:∀p:fL w2.drew,p.val.cell? ⟨B,1,none⟩=some (.int .i64 256):=fun p=>by rw [p.is];exact y2
   have z3:∀p:fL w2.drew,p.val.cell? ⟨r,1,none⟩=some (.int .i64 s1.fr):=fun p=>by rw [p.is];exact y3
   have q1:∀p:fL w2.drew,Calls prog 40 #[.int .i64 (v:Int),.int .i64 1,.int .i64 256] p.val fun e dR=>e=.returned (.int .i64 E)/\∃p':fL w2.drew,dR=p'.val:=fun p=>(g_ p.val).mono fun e w' ⟨he,hw⟩=>⟨he,p,hw⟩
   have wT:Nonempty (fL w2.drew):=⟨⟨w2.drew,rfl⟩⟩;clear g_ y0 y1 y2 y3;refine Fx (α:=fL w2.drew) 13 fL.val (by kernel_rfl) (by kernel_rfl) (by kernel_rfl) rfl rfl ⟨w2.drew,rfl⟩ rfl ?_;simp only [List.take_succ_cons,List.take_zero];repeat(go_big_quiet_step (first|with_reducible exact q1 _))
   refine wpQuiet_nil ?_;rintro w' ⟨p,rfl⟩;rw [p.is];clear z0 z1 z2 z3 q1 wT;go_wp2_with (go_at_call 112;refine wS.mono ?_;rintro e wx ⟨rfl,ox⟩);go_roundg 3
   case rel=>exact ⟨1,by omega,rfl,hd (fM.out wx ox)⟩
   case measure=>omega
  ·obtain rfl:gk=3:=by omega
   have ix:∀W,(Instr.index 91 (.agg #[.int .i64 1,.int .i64 256,.int .i64 2,.int .i64 1,.int .i64 64,.int .i64 1,.int .i64 0,.int .i64 8,.int .i64 1,.int .i64 0,.int .i64 4096,.int .i64 2]) (.int .i64 1)).run prog W=.ok (.agg #[.int .i64 1,.int .i64 64,.int .i64 1]) W:=fun W=>by kernel_rfl
   go_upto_region 5 with fail;clear ix;obtain ⟨wa,cW⟩:=Haa (wr.alloc (.cells #[.int .i64 1,.int .i64 64,.int .i64 1] 90));rw [cW.out];have fe:Below wr.heap.size wr wa:=by rw [<-cW.out];exact aA wr _
   have HB:Hid (wa.heap[wr.heap.size]?=some (.cells #[.int .i64 1,.int .i64 64,.int .i64 1] 90 (0,0))):=hd (by rw [<-cW.out];exact aae wr _);have gK:=(aab.1 HW.out.2).1;have HG:Hid (wa.heap[G]?=some (.cells #[.int .i64 (bL bs s 1 0),.int .i64 (bL bs s 1 1),.int .i64 (bL bs s 1 2),.int .i64 (bL bs s 1 3)] 61 (0,0))):=hd (by rw [fe.block G gK];exact HW.out.2);have O1:Hid (aN w r a cap bs (bD bs s 1) wa):=hd (HW.out.1.after fe);have uY:=HW.out.1.1.lt;obtain ⟨B,hB⟩:=Haa wr.heap.size;rw [hB.out]at HB gK uY⊢;clear cW fe hB HW;have x2:=aaa wa B 2 _ _ _ HB.out;simp at x2;have hs:=vV O1.out.1 1 ⟨by omega,by omega⟩
   have HN:Hid (∀W1 W2,aN wa r a cap bs (az bs 1 (bD bs s 1)).2 W1->aN (W1.setCell ⟨G,1,none⟩ (.int .i64 ((az bs 1 (bD bs s 1)).1:Nat))) r a cap bs (eB (az bs 1 (bD bs s 1)).2 (bf 1 64 ((az bs 1 (bD bs s 1)).1:Nat)) (az bs 1 (bD bs s 1)).2.fr) W2->aN w r a cap bs (bD bs s 2) W2/\W2.heap[G]?=some (.cells #[.int .i64 (bL bs s 2 0),.int .i64 (bL bs s 2 1),.int .i64 (bL bs s 2 2),.int .i64 (bL bs s 2 3)] 61 (0,0))):=hd (by
    intro W1 W2 o1 o2;have o3:=(O1.out.trans o1).put H.out (aaB hG.out) 1 (.int .i64 ((az bs 1 (bD bs s 1)).1:Nat));refine ⟨o3.trans o2, ?_⟩;have e1:W1.heap[G]?=_:=(o1.2.block G (aab.1 HG.out).1 (by omega)).trans HG.out;have e2:=aax W1 G 1 _ _ (.int .i64 ((az bs 1 (bD bs s 1)).1:Nat)) e1;rw [o2.2.block G (aab.1 e2).1 (by omega),e2]
    rfl)
   have HK:Hid (∀W1,aN wa r a cap bs (az bs 1 (bD bs s 1)).2 W1->W1.heap[G]?=some (.cells #[.int .i64 (bL bs s 1 0),.int .i64 (bL bs s 1 1),.int .i64 (bL bs s 1 2),.int .i64 (bL bs s 1 3)] 61 (0,0))/\W1.heap[B]?=some (.cells #[.int .i64 1,.int .i64 64,.int .i64 1] 90 (0,0))/\aN w r a cap bs (az bs 1 (bD bs s 1)).2 W1):=hd (by
    intro W1 o1
    exact ⟨(o1.2.block G (aab.1 HG.out).1 (by omega)).trans HG.out,(o1.2.block B (aab.1 HB.out).1 (by omega)).trans HB.out,O1.out.trans o1⟩)
   have af:=vW (s:=bD bs s 1) O1.out.1.byte 1 (by omega);have g_:=vU ((az bs 1 (bD bs s 1)).1:Nat) 1 64;clear HB HG O1;generalize bf 1 64 ((az bs 1 (bD bs s 1)).1:Nat)=E at*
   generalize (az bs 1 (bD bs s 1)).1=v at*
   generalize (az bs 1 (bD bs s 1)).2=s1 at*
   have hf:Hid (∀W1,aN wa r a cap bs s1 W1->(∀n,W1.cell? ⟨G,n,none⟩=(#[.int .i64 (bL bs s 1 0),.int .i64 (bL bs s 1 1),.int .i64 (bL bs s 1 2),.int .i64 (bL bs s 1 3)]:Array Value)[n]?/\W1.frozen? ⟨G,n,none⟩=false)):=hd (fun W1 o1 n=>⟨aaa _ _ _ _ _ _ (HK.out W1 o1).1,by simp [World.frozen?,(HK.out W1 o1).1]⟩);go_upto_region 6 with(go_at_call 111;refine hs.mono ?_;rintro e w1 ⟨rfl,o1⟩;have g0:=((hf.out w1 o1) 1).1;have g1:=((hf.out w1 o1) 1).2;replace o1:=hd o1;simp at g0);obtain ⟨w2,dX⟩:=Haa (w1.setCell ⟨G,1,none⟩ (.int .i64 (v:Int)));rw [dX.out];have o2:aN w r a cap bs s1 w2:=by rw [<-dX.out];exact (HK.out w1 o1.out).2.2.put H.out (aaB hG.out) _ _
   have y0:w2.cell? ⟨G,1,none⟩=some (.int .i64 (v:Int)):=by
    rw [<-dX.out,aaa _ _ _ _ _ _ (aax w1 G 1 _ _ _ (HK.out w1 o1.out).1)];rfl
   have kr:w2.heap[B]?=some (.cells #[.int .i64 1,.int .i64 64,.int .i64 1] 90 (0,0)):=by
    rw [<-dX.out,aay _ _ _ _ (by simp only;omega)];exact (HK.out w1 o1.out).2.1
   have y1:=aaa w2 B 0 _ _ _ kr;have y2:=aaa w2 B 1 _ _ _ kr;simp at y1 y2;have y3:=o2.1.cells.2.1;have wS:Calls prog 112 #[.pointer (some ⟨r,0,none⟩),.int .i64 E,.int .i64 s1.fr] w2.drew fun e w'=>e=.returned (.tuple #[])/\aN w2 r a cap bs (eB s1 E s1.fr) w':=
    (tC (o2.1.below (ck w2 1)) E s1.fr).mono fun e w' ⟨he,ho⟩=>⟨he,ho.1,(Mod.aS _ (ck w2 1)).trans ho.2 (fun _ h=> .inl h)⟩
   have fM:Hid (∀W2,aN w2 r a cap bs (eB s1 E s1.fr) W2->_):=hd (fun W2 ho=>HN.out w1 W2 o1.out (by rw [dX.out];exact ho));clear HN HK hf o1 dX o2 kr g0 g1;have z0:∀p:fL w2.drew,p.val.cell? ⟨G,1,none⟩=some (.int .i64 (v:Int)):=fun p=>by rw [p.is];exact y0
   have z1:∀p:fL w2.drew,p.val.cell? ⟨B,0,none⟩=some (.int .i64 1):=fun p=>by rw [p.is];exact y1
   have z2:∀p:fL w2.drew,p.val.cell? ⟨B,1,none⟩=some (.int .i64 64):=fun p=>by rw [p.is];exact y2
   have z3:∀p:fL w2.drew,p.val.cell? ⟨r,1,none⟩=some (.int .i64 s1.fr):=fun p=>by rw [p.is];exact y3
   have q1:∀p:fL w2.drew,Calls prog 40 #[.int .i64 (v:Int),.int .i64 1,.int .i64 64] p.val fun e dR=>e=.returned (.int .i64 E)/\∃p':fL w2.drew,dR=p'.val:=fun p=>(g_ p.val).mono fun e w' ⟨he,hw⟩=>⟨he,p,hw⟩
   have wT:Nonempty (fL w2.drew):=⟨⟨w2.drew,rfl⟩⟩;clear g_ y0 y1 y2 y3;refine Fx (α:=fL w2.drew) 13 fL.val (by kernel_rfl) (by kernel_rfl) (by kernel_rfl) rfl rfl ⟨w2.drew,rfl⟩ rfl ?_;simp only [List.take_succ_cons,List.take_zero];repeat(go_big_quiet_step (first|with_reducible exact q1 _))
   refine wpQuiet_nil ?_;rintro w' ⟨p,rfl⟩;rw [p.is];clear z0 z1 z2 z3 q1 wT;go_wp2_with (go_at_call 112;refine wS.mono ?_;rintro e wx ⟨rfl,ox⟩);go_roundg 2
   case rel=>exact ⟨2,by omega,rfl,hd (fM.out wx ox)⟩
   case measure=>omega
  ·obtain rfl:gk=2:=by omega
   have ix:∀W,(Instr.index 91 (.agg #[.int .i64 1,.int .i64 256,.int .i64 2,.int .i64 1,.int .i64 64,.int .i64 1,.int .i64 0,.int .i64 8,.int .i64 1,.int .i64 0,.int .i64 4096,.int .i64 2]) (.int .i64 2)).run prog W=.ok (.agg #[.int .i64 0,.int .i64 8,.int .i64 1]) W:=fun W=>by kernel_rfl
   go_upto_region 5 with fail;clear ix;obtain ⟨wa,cW⟩:=Haa (wr.alloc (.cells #[.int .i64 0,.int .i64 8,.int .i64 1] 90));rw [cW.out];have fe:Below wr.heap.size wr wa:=by rw [<-cW.out];exact aA wr _
   have HB:Hid (wa.heap[wr.heap.size]?=some (.cells #[.int .i64 0,.int .i64 8,.int .i64 1] 90 (0,0))):=hd (by rw [<-cW.out];exact aae wr _);have gK:=(aab.1 HW.out.2).1;have HG:Hid (wa.heap[G]?=some (.cells #[.int .i64 (bL bs s 2 0),.int .i64 (bL bs s 2 1),.int .i64 (bL bs s 2 2),.int .i64 (bL bs s 2 3)] 61 (0,0))):=hd (by rw [fe.block G gK];exact HW.out.2);have O1:Hid (aN w r a cap bs (bD bs s 2) wa):=hd (HW.out.1.after fe);have uY:=HW.out.1.1.lt;obtain ⟨B,hB⟩:=Haa wr.heap.size;rw [hB.out]at HB gK uY⊢;clear cW fe hB HW;have x2:=aaa wa B 2 _ _ _ HB.out;simp at x2;have hs:=vV O1.out.1 1 ⟨by omega,by omega⟩
   have HN:Hid (∀W1 W2,aN wa r a cap bs (az bs 1 (bD bs s 2)).2 W1->aN (W1.setCell ⟨G,2,none⟩ (.int .i64 ((az bs 1 (bD bs s 2)).1:Nat))) r a cap bs (eB (az bs 1 (bD bs s 2)).2 (bf 0 8 ((az bs 1 (bD bs s 2)).1:Nat)) (az bs 1 (bD bs s 2)).2.fr) W2->aN w r a cap bs (bD bs s 3) W2/\W2.heap[G]?=some (.cells #[.int .i64 (bL bs s 3 0),.int .i64 (bL bs s 3 1),.int .i64 (bL bs s 3 2),.int .i64 (bL bs s 3 3)] 61 (0,0))):=hd (by
    intro W1 W2 o1 o2;have o3:=(O1.out.trans o1).put H.out (aaB hG.out) 2 (.int .i64 ((az bs 1 (bD bs s 2)).1:Nat));refine ⟨o3.trans o2, ?_⟩;have e1:W1.heap[G]?=_:=(o1.2.block G (aab.1 HG.out).1 (by omega)).trans HG.out;have e2:=aax W1 G 2 _ _ (.int .i64 ((az bs 1 (bD bs s 2)).1:Nat)) e1;rw [o2.2.block G (aab.1 e2).1 (by omega),e2]
    rfl)
   have HK:Hid (∀W1,aN wa r a cap bs (az bs 1 (bD bs s 2)).2 W1->W1.heap[G]?=some (.cells #[.int .i64 (bL bs s 2 0),.int .i64 (bL bs s 2 1),.int .i64 (bL bs s 2 2),.int .i64 (bL bs s 2 3)] 61 (0,0))/\W1.heap[B]?=some (.cells #[.int .i64 0,.int .i64 8,.int .i64 1] 90 (0,0))/\aN w r a cap bs (az bs 1 (bD bs s 2)).2 W1):=hd (by
    intro W1 o1
    exact ⟨(o1.2.block G (aab.1 HG.out).1 (by omega)).trans HG.out,(o1.2.block B (aab.1 HB.out).1 (by omega)).trans HB.out,O1.out.trans o1⟩)
   have af:=vW (s:=bD bs s 2) O1.out.1.byte 1 (by omega);have g_:=vU ((az bs 1 (bD bs s 2)).1:Nat) 0 8;clear HB HG O1;generalize bf 0 8 ((az bs 1 (bD bs s 2)).1:Nat)=E at*
   generalize (az bs 1 (bD bs s 2)).1=v at*
   generalize (az bs 1 (bD bs s 2)).2=s1 at*
   have hf:Hid (∀W1,aN wa r a cap bs s1 W1->(∀n,W1.cell? ⟨G,n,none⟩=(#[.int .i64 (bL bs s 2 0),.int .i64 (bL bs s 2 1),.int .i64 (bL bs s 2 2),.int .i64 (bL bs s 2 3)]:Array Value)[n]?/\W1.frozen? ⟨G,n,none⟩=false)):=hd (fun W1 o1 n=>⟨aaa _ _ _ _ _ _ (HK.out W1 o1).1,by simp [World.frozen?,(HK.out W1 o1).1]⟩);go_upto_region 6 with(go_at_call 111;refine hs.mono ?_;rintro e w1 ⟨rfl,o1⟩;have g0:=((hf.out w1 o1) 2).1;have g1:=((hf.out w1 o1) 2).2;replace o1:=hd o1;simp at g0);obtain ⟨w2,dX⟩:=Haa (w1.setCell ⟨G,2,none⟩ (.int .i64 (v:Int)));rw [dX.out];have o2:aN w r a cap bs s1 w2:=by rw [<-dX.out];exact (HK.out w1 o1.out).2.2.put H.out (aaB hG.out) _ _
   have y0:w2.cell? ⟨G,2,none⟩=some (.int .i64 (v:Int)):=by
    rw [<-dX.out,aaa _ _ _ _ _ _ (aax w1 G 2 _ _ _ (HK.out w1 o1.out).1)];rfl
   have kr:w2.heap[B]?=some (.cells #[.int .i64 0,.int .i64 8,.int .i64 1] 90 (0,0)):=by
    rw [<-dX.out,aay _ _ _ _ (by simp only;omega)];exact (HK.out w1 o1.out).2.1
   have y1:=aaa w2 B 0 _ _ _ kr;have y2:=aaa w2 B 1 _ _ _ kr;simp at y1 y2;have y3:=o2.1.cells.2.1;have wS:Calls prog 112 #[.pointer (some ⟨r,0,none⟩),.int .i64 E,.int .i64 s1.fr] w2.drew fun e w'=>e=.returned (.tuple #[])/\aN w2 r a cap bs (eB s1 E s1.fr) w':=
    (tC (o2.1.below (ck w2 1)) E s1.fr).mono fun e w' ⟨he,ho⟩=>⟨he,ho.1,(Mod.aS _ (ck w2 1)).trans ho.2 (fun _ h=> .inl h)⟩
   have fM:Hid (∀W2,aN w2 r a cap bs (eB s1 E s1.fr) W2->_):=hd (fun W2 ho=>HN.out w1 W2 o1.out (by rw [dX.out];exact ho));clear HN HK hf o1 dX o2 kr g0 g1;have z0:∀p:fL w2.drew,p.val.cell? ⟨G,2,none⟩=some (.int .i64 (v:Int)):=fun p=>by rw [p.is];exact y0
   have z1:∀p:fL w2.drew,p.val.cell? ⟨B,0,none⟩=some (.int .i64 0):=fun p=>by rw [p.is];exact y1
   have z2:∀p:fL w2.drew,p.val.cell? ⟨B,1,none⟩=some (.int .i64 8):=fun p=>by rw [p.is];exact y2
   have z3:∀p:fL w2.drew,p.val.cell? ⟨r,1,none⟩=some (.int .i64 s1.fr):=fun p=>by rw [p.is];exact y3
   have q1:∀p:fL w2.drew,Calls prog 40 #[.int .i64 (v:Int),.int .i64 0,.int .i64 8] p.val fun e dR=>e=.returned (.int .i64 E)/\∃p':fL w2.drew,dR=p'.val:=fun p=>(g_ p.val).mono fun e w' ⟨he,hw⟩=>⟨he,p,hw⟩
   have wT:Nonempty (fL w2.drew):=⟨⟨w2.drew,rfl⟩⟩;clear g_ y0 y1 y2 y3;refine Fx (α:=fL w2.drew) 13 fL.val (by kernel_rfl) (by kernel_rfl) (by kernel_rfl) rfl rfl ⟨w2.drew,rfl⟩ rfl ?_;simp only [List.take_succ_cons,List.take_zero];repeat(go_big_quiet_step (first|with_reducible exact q1 _))
   refine wpQuiet_nil ?_;rintro w' ⟨p,rfl⟩;rw [p.is];clear z0 z1 z2 z3 q1 wT;go_wp2_with (go_at_call 112;refine wS.mono ?_;rintro e wx ⟨rfl,ox⟩);go_roundg 1
   case rel=>exact ⟨3,by omega,rfl,hd (fM.out wx ox)⟩
   case measure=>omega
  ·obtain rfl:gk=1:=by omega
   have ix:∀W,(Instr.index 91 (.agg #[.int .i64 1,.int .i64 256,.int .i64 2,.int .i64 1,.int .i64 64,.int .i64 1,.int .i64 0,.int .i64 8,.int .i64 1,.int .i64 0,.int .i64 4096,.int .i64 2]) (.int .i64 3)).run prog W=.ok (.agg #[.int .i64 0,.int .i64 4096,.int .i64 2]) W:=fun W=>by kernel_rfl
   go_upto_region 5 with fail;clear ix;obtain ⟨wa,cW⟩:=Haa (wr.alloc (.cells #[.int .i64 0,.int .i64 4096,.int .i64 2] 90));rw [cW.out];have fe:Below wr.heap.size wr wa:=by rw [<-cW.out];exact aA wr _
   have HB:Hid (wa.heap[wr.heap.size]?=some (.cells #[.int .i64 0,.int .i64 4096,.int .i64 2] 90 (0,0))):=hd (by rw [<-cW.out];exact aae wr _);have gK:=(aab.1 HW.out.2).1;have HG:Hid (wa.heap[G]?=some (.cells #[.int .i64 (bL bs s 3 0),.int .i64 (bL bs s 3 1),.int .i64 (bL bs s 3 2),.int .i64 (bL bs s 3 3)] 61 (0,0))):=hd (by rw [fe.block G gK];exact HW.out.2);have O1:Hid (aN w r a cap bs (bD bs s 3) wa):=hd (HW.out.1.after fe);have uY:=HW.out.1.1.lt;obtain ⟨B,hB⟩:=Haa wr.heap.size;rw [hB.out]at HB gK uY⊢;clear cW fe hB HW;have x2:=aaa wa B 2 _ _ _ HB.out;simp at x2;have hs:=vV O1.out.1 2 ⟨by omega,by omega⟩
   have HN:Hid (∀W1 W2,aN wa r a cap bs (az bs 2 (bD bs s 3)).2 W1->aN (W1.setCell ⟨G,3,none⟩ (.int .i64 ((az bs 2 (bD bs s 3)).1:Nat))) r a cap bs (eB (az bs 2 (bD bs s 3)).2 (bf 0 4096 ((az bs 2 (bD bs s 3)).1:Nat)) (az bs 2 (bD bs s 3)).2.fr) W2->aN w r a cap bs (bD bs s 4) W2/\W2.heap[G]?=some (.cells #[.int .i64 (bL bs s 4 0),.int .i64 (bL bs s 4 1),.int .i64 (bL bs s 4 2),.int .i64 (bL bs s 4 3)] 61 (0,0))):=hd (by
    intro W1 W2 o1 o2;have o3:=(O1.out.trans o1).put H.out (aaB hG.out) 3 (.int .i64 ((az bs 2 (bD bs s 3)).1:Nat));refine ⟨o3.trans o2, ?_⟩;have e1:W1.heap[G]?=_:=(o1.2.block G (aab.1 HG.out).1 (by omega)).trans HG.out;have e2:=aax W1 G 3 _ _ (.int .i64 ((az bs 2 (bD bs s 3)).1:Nat)) e1;rw [o2.2.block G (aab.1 e2).1 (by omega),e2]
    rfl)
   have HK:Hid (∀W1,aN wa r a cap bs (az bs 2 (bD bs s 3)).2 W1->W1.heap[G]?=some (.cells #[.int .i64 (bL bs s 3 0),.int .i64 (bL bs s 3 1),.int .i64 (bL bs s 3 2),.int .i64 (bL bs s 3 3)] 61 (0,0))/\W1.heap[B]?=some (.cells #[.int .i64 0,.int .i64 4096,.int .i64 2] 90 (0,0))/\aN w r a cap bs (az bs 2 (bD bs s 3)).2 W1):=hd (by
    intro W1 o1
    exact ⟨(o1.2.block G (aab.1 HG.out).1 (by omega)).trans HG.out,(o1.2.block B (aab.1 HB.out).1 (by omega)).trans HB.out,O1.out.trans o1⟩)
   have af:=vW (s:=bD bs s 3) O1.out.1.byte 2 (by omega);have g_:=vU ((az bs 2 (bD bs s 3)).1:Nat) 0 4096;clear HB HG O1;generalize bf 0 4096 ((az bs 2 (bD bs s 3)).1:Nat)=E at*
   generalize (az bs 2 (bD bs s 3)).1=v at*
   generalize (az bs 2 (bD bs s 3)).2=s1 at*
   have hf:Hid (∀W1,aN wa r a cap bs s1 W1->(∀n,W1.cell? ⟨G,n,none⟩=(#[.int .i64 (bL bs s 3 0),.int .i64 (bL bs s 3 1),.int .i64 (bL bs s 3 2),.int .i64 (bL bs s 3 3)]:Array Value)[n]?/\W1.frozen? ⟨G,n,none⟩=false)):=hd (fun W1 o1 n=>⟨aaa _ _ _ _ _ _ (HK.out W1 o1).1,by simp [World.frozen?,(HK.out W1 o1).1]⟩);go_upto_region 6 with(go_at_call 111;refine hs.mono ?_;rintro e w1 ⟨rfl,o1⟩;have g0:=((hf.out w1 o1) 3).1;have g1:=((hf.out w1 o1) 3).2;replace o1:=hd o1;simp at g0);obtain ⟨w2,dX⟩:=Haa (w1.setCell ⟨G,3,none⟩ (.int .i64 (v:Int)));rw [dX.out];have o2:aN w r a cap bs s1 w2:=by rw [<-dX.out];exact (HK.out w1 o1.out).2.2.put H.out (aaB hG.out) _ _
   have y0:w2.cell? ⟨G,3,none⟩=some (.int .i64 (v:Int)):=by
    rw [<-dX.out,aaa _ _ _ _ _ _ (aax w1 G 3 _ _ _ (HK.out w1 o1.out).1)];rfl
   have kr:w2.heap[B]?=some (.cells #[.int .i64 0,.int .i64 4096,.int .i64 2] 90 (0,0)):=by
    rw [<-dX.out,aay _ _ _ _ (by simp only;omega)];exact (HK.out w1 o1.out).2.1
   have y1:=aaa w2 B 0 _ _ _ kr;have y2:=aaa w2 B 1 _ _ _ kr;simp at y1 y2;have y3:=o2.1.cells.2.1;have wS:Calls prog 112 #[.pointer (some ⟨r,0,none⟩),.int .i64 E,.int .i64 s1.fr] w2.drew fun e w'=>e=.returned (.tuple #[])/\aN w2 r a cap bs (eB s1 E s1.fr) w':=
    (tC (o2.1.below (ck w2 1)) E s1.fr).mono fun e w' ⟨he,ho⟩=>⟨he,ho.1,(Mod.aS _ (ck w2 1)).trans ho.2 (fun _ h=> .inl h)⟩
   have fM:Hid (∀W2,aN w2 r a cap bs (eB s1 E s1.fr) W2->_):=hd (fun W2 ho=>HN.out w1 W2 o1.out (by rw [dX.out];exact ho));clear HN HK hf o1 dX o2 kr g0 g1;have z0:∀p:fL w2.drew,p.val.cell? ⟨G,3,none⟩=some (.int .i64 (v:Int)):=fun p=>by rw [p.is];exact y0
   have z1:∀p:fL w2.drew,p.val.cell? ⟨B,0,none⟩=some (.int .i64 0):=fun p=>by rw [p.is];exact y1
   have z2:∀p:fL w2.drew,p.val.cell? ⟨B,1,none⟩=some (.int .i64 4096):=fun p=>by rw [p.is];exact y2
   have z3:∀p:fL w2.drew,p.val.cell? ⟨r,1,none⟩=some (.int .i64 s1.fr):=fun p=>by rw [p.is];exact y3
   have q1:∀p:fL w2.drew,Calls prog 40 #[.int .i64 (v:Int),.int .i64 0,.int .i64 4096] p.val fun e dR=>e=.returned (.int .i64 E)/\∃p':fL w2.drew,dR=p'.val:=fun p=>(g_ p.val).mono fun e w' ⟨he,hw⟩=>⟨he,p,hw⟩
   have wT:Nonempty (fL w2.drew):=⟨⟨w2.drew,rfl⟩⟩;clear g_ y0 y1 y2 y3;refine Fx (α:=fL w2.drew) 13 fL.val (by kernel_rfl) (by kernel_rfl) (by kernel_rfl) rfl rfl ⟨w2.drew,rfl⟩ rfl ?_;simp only [List.take_succ_cons,List.take_zero];repeat(go_big_quiet_step (first|with_reducible exact q1 _))
   refine wpQuiet_nil ?_;rintro w' ⟨p,rfl⟩;rw [p.is];clear z0 z1 z2 z3 q1 wT;go_wp2_with (go_at_call 112;refine wS.mono ?_;rintro e wx ⟨rfl,ox⟩);go_roundg 0
   case rel=>exact ⟨4,by omega,rfl,hd (fM.out wx ox)⟩
   case measure=>omega
  ·obtain rfl:gk=0:=by omega
   have z0:=aaa wr G 0 _ _ _ HW.out.2;have z1:=aaa wr G 1 _ _ _ HW.out.2;have z2:=aaa wr G 2 _ _ _ HW.out.2;have z3:=aaa wr G 3 _ _ _ HW.out.2;simp [bL]at z0 z1 z2 z3;have HR:Hid (aN w r a cap bs (bD bs s 4) wr):=hd HW.out.1;clear HW;go_wp2_with fail;go_region;go_wp2_with fail
   (try simp only [Exit.inBlock,Exit.then]);refine aar (My rfl _ _ _) rfl ?_
   exact ⟨rfl,HR.out.after (ck wr 1)⟩
end
end Go.Proofs.YthopnfbjiifhhaaGreatDoor
