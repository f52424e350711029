/- A process is laid. -/
import Derived.Test.YthopnfbjiifhhaaGreatDoorGMk
set_option maxHeartbeats 4000000
set_option maxRecDepth 100000
namespace Go.Proofs.YthopnfbjiifhhaaGreatDoor
open Go.RowKit Go.Proofs.Tryz
structure Be(w:World)(room:Nat)(t:iN):Prop where
 rd:aL.C9 w t.la t.ls
 ss:t.ls.map (·.ls room)=t.x.ss
variable{w:World}{bq p:Nat}
theorem Be.below{w':World}{room:Nat}{t:iN}(h:Be w room t)(hb:Below w.heap.size w w'):Be w' room t:=⟨h.rd.below hb,h.ss⟩
def zk(p:Nat)(bp:Nat)(a:Option Addr)(n c:Nat)(x:cF)(bo:Option Addr):Array Value:=#[.int .i64 (p:Int),.pointer (some ⟨bp,0,none⟩),.slice a n c,.int .i64 x.st,
 .int .i64 x.core.pc,.int .i64 (x.core.r 0),.int .i64 (x.core.r 1),.int .i64 (x.core.r 2),.int .i64 (x.core.r 3),.int .i64 (x.core.r 4),.int .i64 (x.core.r 5),.int .i64 (x.core.r 6),.int .i64 (x.core.r 7),
 .bool x.fired,.pointer bo]
def lI(p:Nat)(t:Int)(L:List aZ.Th):List aZ.Th:=if 0<t then aZ.mF (2*(p:Int)) t L else L
def wJ(p:Nat)(t:Int)(L:List aZ.Th):List aZ.Th:=if 0<t then aZ.mF (2*(p:Int)+1) t L else L
structure nJ(w:World)(p bp:Nat)(a:Option Addr)(n c:Nat)(x:cF)(bq bw:Nat)(FW:Nat->Prop)(L:List aZ.Th)(w':World)(bo:Nat)(FP iX:Nat->Prop):Prop where
 hd:w'.heap[bq]?=some (.cells (zk p bp a n c x (some ⟨bo,0,none⟩)) 173 (0,0))
 ps:aL.Ps w' 244 283 245 bo FP x.ss x.lc
 wh:aZ.Wh w' bw iX L
 mod:Mod (fun k=>k=bq\/FW k) w w'
 gP:∀k,FP k->w.heap.size<=k/\¬iX k
 gW:∀k,iX k->FW k\/w.heap.size<=k
def Wk(w:World)(p bp:Nat)(a:Option Addr)(n c:Nat)(x:cF)(bq bw:Nat)(FW:Nat->Prop)(L:List aZ.Th)(E:Ending)(w':World):Prop:=E=.returned (.tuple #[])/\∃bo FP iX,nJ w p bp a n c x bq bw FW L w' bo FP iX
theorem tnumC(h:w.cell? ⟨bq,0,none⟩=some (.int .i64 (p:Int)))(hp:p<32):Calls prog 120 #[.pointer (some ⟨bq,0,none⟩)] w fun e w'=>e=.returned (.int .i64 (2*(p:Int)))/\w=w':=by
 go_enter func120,ntmps120
 go_wp2
 go_ret;exact ⟨rfl,rfl⟩
theorem snumC(h:w.cell? ⟨bq,0,none⟩=some (.int .i64 (p:Int)))(hp:p<32):Calls prog 121 #[.pointer (some ⟨bq,0,none⟩)] w fun e w'=>e=.returned (.int .i64 (2*(p:Int)+1))/\w=w':=by
 go_enter func121,ntmps121
 go_wp2
 go_ret;exact ⟨rfl,rfl⟩
section
variable{w w' w2:World} {p bp:Nat} {a:Option Addr} {n c:Nat} {x:cF} {bq bw:Nat} {FW:Nat->Prop} {L L':List aZ.Th} {bo:Nat} {FP iX:Nat->Prop}
theorem nJ.set(h:nJ w p bp a n c x bq bw FW L w' bo FP iX)(dV:¬FW bq)(kU:bq<w.heap.size)(ho:aZ.Cm w' bw iX L' w2):∃FW2,nJ w p bp a n c x bq bw FW L' w2 bo FP FW2:=by
 obtain ⟨k1,F2,k2,k3⟩:=ho;have Rh:=h.gW;have Ri:=h.gP;have cD:=h.mod.size;have mq:=aL.Ps.lt h.ps;refine ⟨F2, ?_,aL.Ps.mod h.ps k1 (fun k hk=>(Ri k hk).2),k2,h.mod.trans (k1.mono (fun k _ hk=>hk)) (fun k hk=> ?_),fun k hk=>⟨(Ri k hk).1,fun hf=> ?_⟩,fun k hk=> ?_⟩
 ·rw [k1.block _ (aab.1 h.hd).1 (fun hf=> ?_)]
  ·exact h.hd
  ·rcases Rh _ hf with e|e
   ·exact dV e
   ·omega
 ·rcases Rh k hk with e|e
  ·exact .inl (.inr e)
  ·exact .inr e
 ·rcases k3 k hf with e|e
  ·exact (Ri k hk).2 e
  ·have:=mq k hk;omega
 ·rcases k3 k hk with e|e
  ·exact Rh k e
  ·exact .inr (by omega)
theorem nJ.ahead{W0:World}(hb:Below w.heap.size w W0)(h:nJ W0 p bp a n c x bq bw FW L w' bo FP iX):nJ w p bp a n c x bq bw FW L w' bo FP iX:=
 ⟨h.hd,h.ps,h.wh,(Mod.aS _ hb).trans h.mod (fun _ hk=> .inl hk),fun k hk=>⟨aai hb.size (h.gP k hk).1,(h.gP k hk).2⟩,fun k hk=>(h.gW k hk).imp id (fun e=>aai hb.size e)⟩
theorem nJ.drew(h:nJ w p bp a n c x bq bw FW L w' bo FP iX):nJ w p bp a n c x bq bw FW L w'.drew bo FP iX:=
 ⟨h.hd,aL.Ps.mod h.ps (Mod.aS (fun _=>False) (fu w')) (fun _ _ h=>h),h.wh.below (fu w'),h.mod.trans (Mod.aS _ (fu w')) (fun _ hk=> .inl hk),h.gP,h.gW⟩
end
variable{w w2 W wr w1:World}{b p bp n c bq bw q i np:Nat}{a:Option Addr}{FW S:Nat->Prop}{l:Lay}{α:Type}{m:MS}
theorem heap_drew{o:Option Obj}(h:w.heap[b]?=o):w.drew.heap[b]?=o:=h
theorem two_set(v0 v1 v2 v3 v4 v5 v6 v7 v8 v9 v10 v11 v12 v13 v14 u3 u13:Value):((#[v0,v1,v2,v3,v4,v5,v6,v7,v8,v9,v10,v11,v12,v13,v14].setIfInBounds 3 u3).setIfInBounds 13 u13)=#[v0,v1,v2,u3,v4,v5,v6,v7,v8,v9,v10,v11,v12,u13,v14]:=by simp
theorem lay_cells{W0:World}{x y:cF}{bo:Option Addr}(h:W0.heap[bq]?=some (.cells (zk p bp a n c y bo) 173 (0,0))):
 (gH ((W0.setCell ⟨bq,3,none⟩ (.int .i64 x.st)).setCell ⟨bq,13,none⟩ (.bool x.fired)) bq x.core).heap[bq]?=some (.cells (zk p bp a n c x bo) 173 (0,0)):=by
 unfold zk at h;have h2:=aU (i:=13) (aU (i:=3) h (.int .i64 x.st)) (.bool x.fired);rw [two_set]at h2;unfold gH;have h1:=aU (i:=12) (aU (i:=11) (aU (i:=10) (aU (i:=9) (aU (i:=8) (aU (i:=7) (aU (i:=6) (aU (i:=5) (aU (i:=4) h2 (.int .i64 x.core.pc)) (.int .i64 (x.core.r 0))) (.int .i64 (x.core.r 1))) (.int .i64 (x.core.r 2))) (.int .i64 (x.core.r 3))) (.int .i64 (x.core.r 4))) (.int .i64 (x.core.r 5))) (.int .i64 (x.core.r 6))) (.int .i64 (x.core.r 7));rw [h1,UX];rfl
theorem lay_made{W1:World}{x:cF}{L:List aZ.Th}{bo:Nat}{FP:Nat->Prop}(di:Mod (fun k=>k=bq) w W1)(fW:W1.heap[bq]?=some (.cells (zk p bp a n c x none) 173 (0,0)))(hw:aZ.Wh w bw FW L)(dV:¬FW bq)(kU:bq<w.heap.size)(hb:Below W1.heap.size W1 w2)(zh:aL.Ps w2 244 283 245 bo FP x.ss x.lc)(hn:∀k,FP k->W1.heap.size<=k):
 nJ w p bp a n c x bq bw FW L (w2.setCell ⟨bq,14,none⟩ (.pointer (some ⟨bo,0,none⟩))) bo FP FW:=by
 have hm:Mod (fun k=>k=bq) w2 (w2.setCell ⟨bq,14,none⟩ (.pointer (some ⟨bo,0,none⟩))):=dP _ _ _ _;have gi:=di.size;have vF:=hw.lt;have fQ:Mod (fun k=>k=bq) w (w2.setCell ⟨bq,14,none⟩ (.pointer (some ⟨bo,0,none⟩))):=(di.trans (Mod.aS _ hb) (fun _ hk=> .inl hk)).trans hm (fun _ hk=> .inl hk);refine ⟨?_,aL.Ps.mod zh hm (fun k hk e=>by have:=hn k hk;omega),hw.mod fQ (fun k hk e=>dV (e▸hk)),fQ.mono (fun k _ e=> .inl e),fun k hk=>⟨aai gi (hn k hk),fun hf=>by have:=hn k hk;have:=vF k hf;omega⟩,fun k hk=> .inl hk⟩;have e1:w2.heap[bq]?=_:=(hb.block bq (by omega)).trans fW;rw [aU e1];rfl
theorem NM(p bp:Nat)(a:Option Addr)(n c bq bw room:Nat)(FW:Nat->Prop)(L:List aZ.Th)(t:iN)(w:World)(hR:∀W,Mod (fun k=>k=bq\/FW k) w W->Be W room t)(hq:w.heap[bq]?=some (.cells (zk p bp a n c default none) 173 (0,0)))(Rj:w.cell? ⟨bp,7,none⟩=some (.pointer (some ⟨bw,0,none⟩)))(hw:aZ.Wh w bw FW L)
 (bC:bp≠bq)(dI:¬FW bp)(dV:¬FW bq)(hL:L.length<=64)(hp:p<32)(sM:t.x.timer<=9223372036854775807)(yS:t.x.bE<=9223372036854775807)(Za:t.ls.length<=9)(mo:1<=t.ls.length)(vE:1<=room)(j9:room<=64)(hc:t.x.lc<t.ls.length)(gU:aL.si t.ls)(iG:∀u∈t.ls,aL.xW room u.vs u.ws u.tk u.dr):
 Calls prog 90 #[.pointer (some ⟨bq,0,none⟩),.int .i64 (room:Int),Ir t] w (Wk w p bp a n c t.x bq bw FW (wJ p t.x.bE (lI p t.x.timer L))):=by
 have ai:=aA w (.cells (lz t).toArray 115);have oJ:=aae w (.cells (lz t).toArray 115);obtain ⟨x,la,lc,ls⟩:=t;have LF:=(hR w (Mod.refl _ _)).ss;simp only at LF sM yS Za mo hc gU iG⊢;have hsl:x.ss.length=ls.length:=by rw [<-LF];simp
 obtain ⟨W0,aD⟩:=Haa (w.alloc (.cells (lz ⟨x,la,lc,ls⟩).toArray 115));rw [aD.out]at ai oJ;have bu:W0.heap.size=w.heap.size+1:=by rw [<-aD.out];simp
 have kU:=(aab.1 hq).1;have Rk:bq≠w.heap.size:=by omega
 have hBl':w.heap.size≠bq:=by omega
 have HD:Hid (∀W,Mod (fun k=>k=bq\/FW k) W0 W->(W.cell? ⟨w.heap.size,0,none⟩=some (.int .i64 x.st)/\W.cell? ⟨w.heap.size,1,none⟩=some (.int .i64 x.core.pc)/\W.cell? ⟨w.heap.size,2,none⟩=some (.int .i64 (x.core.r 0))/\W.cell? ⟨w.heap.size,3,none⟩=some (.int .i64 (x.core.r 1))/\W.cell? ⟨w.heap.size,4,none⟩=some (.int .i64 (x.core.r 2))/\W.cell? ⟨w.heap.size,5,none⟩=some (.int .i64 (x.core.r 3))/\W.cell? ⟨w.heap.size,6,none⟩=some (.int .i64 (x.core.r 4))/\W.cell? ⟨w.heap.size,7,none⟩=some (.int .i64 (x.core.r 5))/\W.cell? ⟨w.heap.size,8,none⟩=some (.int .i64 (x.core.r 6))/\W.cell? ⟨w.heap.size,9,none⟩=some (.int .i64 (x.core.r 7)))/\
  W.cell? ⟨w.heap.size,10,none⟩=some (.int .i64 (x.lc:Int))/\W.cell? ⟨w.heap.size,11,none⟩=some (.int .i64 x.timer)/\W.cell? ⟨w.heap.size,12,none⟩=some (.bool x.fired)/\W.cell? ⟨w.heap.size,13,none⟩=some (.int .i64 x.bE)/\W.cell? ⟨w.heap.size,14,none⟩=some (.slice la ls.length lc)/\W.cell? ⟨bp,7,none⟩=some (.pointer (some ⟨bw,0,none⟩))):=hd (fun W hm=>by
  have qQ:=hw.lt;have hk:W.heap[w.heap.size]?=_:=(hm.block _ (by omega) (fun e=>e.elim (fun e=>by omega) (fun e=>by have:=qQ _ e;omega))).trans oJ;have mq:=aaj w _ Rj;refine ⟨⟨?_, ?_, ?_, ?_, ?_, ?_, ?_, ?_, ?_, ?_⟩, ?_, ?_, ?_, ?_, ?_, ?_⟩
  case refine_16=>
   rw [hm.cell (p:=⟨bp,7,none⟩) (aam mq ai.size) (fun e=>e.elim bC dI),ai.cell mq];exact Rj
  all_goals (rw [aaa _ _ _ _ _ _ hk];simp [lz,hsl]))
 obtain ⟨⟨d0,d1,d2,d3,d4,d5,d6,d7,d8,d9⟩,d10,d11,d12,d13,d14,p7⟩:=HD.out W0 (Mod.refl _ _);have nZ:W0.heap[bq]?=some (.cells (zk p bp a n c default none) 173 (0,0)):=(ai.block _ kU).trans hq;have q3:W0.cell? ⟨bq,3,none⟩=some (.int .i64 0):=by rw [aaa _ _ _ _ _ _ nZ];rfl
 have q4:W0.cell? ⟨bq,4,none⟩=some (.int .i64 0):=by rw [aaa _ _ _ _ _ _ nZ];rfl
 have q5:W0.cell? ⟨bq,5,none⟩=some (.int .i64 0):=by rw [aaa _ _ _ _ _ _ nZ];rfl
 have q6:W0.cell? ⟨bq,6,none⟩=some (.int .i64 0):=by rw [aaa _ _ _ _ _ _ nZ];rfl
 have q7:W0.cell? ⟨bq,7,none⟩=some (.int .i64 0):=by rw [aaa _ _ _ _ _ _ nZ];rfl
 have q8:W0.cell? ⟨bq,8,none⟩=some (.int .i64 0):=by rw [aaa _ _ _ _ _ _ nZ];rfl
 have q9:W0.cell? ⟨bq,9,none⟩=some (.int .i64 0):=by rw [aaa _ _ _ _ _ _ nZ];rfl
 have q10:W0.cell? ⟨bq,10,none⟩=some (.int .i64 0):=by rw [aaa _ _ _ _ _ _ nZ];rfl
 have q11:W0.cell? ⟨bq,11,none⟩=some (.int .i64 0):=by rw [aaa _ _ _ _ _ _ nZ];rfl
 have q12:W0.cell? ⟨bq,12,none⟩=some (.int .i64 0):=by rw [aaa _ _ _ _ _ _ nZ];rfl
 have q13:W0.cell? ⟨bq,13,none⟩=some (.bool false):=by rw [aaa _ _ _ _ _ _ nZ];rfl
 have q14:W0.cell? ⟨bq,14,none⟩=some (.pointer none):=by rw [aaa _ _ _ _ _ _ nZ];rfl
 have qf:∀j,W0.frozen? ⟨bq,j,none⟩=false:=fun j=>by simp [World.frozen?,nZ]
 obtain ⟨Q,hQ⟩:=Haa (Wk w p bp a n c x bq bw FW (wJ p x.bE (lI p x.timer L)));rw [hQ.out];replace bu:=hd bu;unfold Ir;unfold lz at aD⊢;simp only [hsl]at aD⊢;go_enter func90,ntmps90;go_upto_region 1 with fail;rw [aD.out];go_region_held3 (fun w'=>w'.cell? ⟨w.heap.size,0,none⟩=some (.int .i64 x.st)/\w'.cell? ⟨w.heap.size,12,none⟩=some (.bool x.fired)) (go_keep) (fail);go_upto_region 3 with fail;obtain ⟨W1,bS⟩:=Haa ((gH ((W0.setCell ⟨bq,3,none⟩ (.int .i64 x.st)).setCell ⟨bq,13,none⟩ (.bool x.fired)) bq x.core).drew);have di:Mod (fun k=>k=bq) W0 W1:=by
  rw [<-bS.out];exact ((dz (dP _ _ _ _) _ _).trans (FT _ _ _) (fun _ hk=> .inl hk)).trans (Mod.aS _ (fu _)) (fun _ hk=> .inl hk)
 have fW:W1.heap[bq]?=some (.cells (zk p bp a n c x none) 173 (0,0)):=by
  rw [<-bS.out];exact heap_drew (lay_cells nZ)
 have PE:Mod (fun k=>k=bq\/FW k) W0 W1:=di.mono (fun k _ e=> .inl e);unfold gH at bS;rw [bS.out];clear bS d0 d1 d2 d3 d4 d5 d6 d7 d8 d9 d10 d11 d12 d13 d14 p7 q3 q4 q5 q6 q7 q8 q9 q10 q11 q12 q13 q14 qf;obtain ⟨-,d10,-,-,-,d14,-⟩:=HD.out W1 PE;have Zb:∀W,Mod (fun k=>k=bq\/FW k) W0 W->Mod (fun k=>k=bq\/FW k) w W:=fun W hm=>(Mod.aS _ ai).trans hm (fun _ hk=> .inl hk)
 have uy:=aL.play_any (room:=room) (c:=lc) (cur:=x.lc) (w:=W1) (hR W1 (Zb W1 PE)).rd Za mo vE j9 hc gU;have iv:=hw.below ai;have HGL:=hd hw.good;have LH:Hid (bq<W0.heap.size):=hd (by have:=bu.out;omega)
 have HL:Hid (∀e w2,aL.zO W1 244 283 245 room ls x.lc e w2->∃bo FP,e=.returned (.tuple #[.pointer (some ⟨bo,0,none⟩),.int .i64 0])/\(w2.frozen? ⟨bq,14,none⟩=false/\w2.cell? ⟨bq,14,none⟩=some (.pointer none))/\nJ W0 p bp a n c x bq bw FW L (w2.setCell ⟨bq,14,none⟩ (.pointer (some ⟨bo,0,none⟩))) bo FP FW):=hd (by
  rintro e w2 (⟨-,b,F,rfl,h3,h4,h5⟩|⟨⟨t,ht,hn⟩,_⟩)
  ·rw [LF]at h3;have e1:w2.heap[bq]?=_:=(h5.block bq (aam LH.out di.size)).trans fW;exact ⟨b,F,rfl,⟨by simp [World.frozen?,e1],by rw [aaa _ _ _ _ _ _ e1];rfl⟩,lay_made di fW iv dV LH.out h5 h3 h4⟩
  ·exact absurd (iG t ht) hn)
 have HE:Hid (∀w2,(∃bo FP iX,nJ W0 p bp a n c x bq bw FW (wJ p x.bE (lI p x.timer L)) w2 bo FP iX)->Q (.returned (.tuple #[])) w2):=hd (fun w2 ⟨bo,FP,iX,h⟩=>by rw [<-hQ.out];exact ⟨rfl,bo,FP,iX,h.ahead ai⟩);have HC:Hid (∀W bo FP iX L',nJ W0 p bp a n c x bq bw FW L' W bo FP iX->W.cell? ⟨bq,0,none⟩=some (.int .i64 (p:Int))/\W.cell? ⟨bq,1,none⟩=some (.pointer (some ⟨bp,0,none⟩))):=hd (fun W bo FP iX L' h=>⟨by rw [aaa _ _ _ _ _ _ h.hd];rfl,by rw [aaa _ _ _ _ _ _ h.hd];rfl⟩);obtain ⟨T,hT⟩:=Haa x.timer;obtain ⟨K,hK⟩:=Haa x.bE;rw [hT.out]at HD HE sM;rw [hK.out]at HD HE yS;obtain ⟨R,uF⟩:∃R:Ending->World->Prop,Hid (aL.zO W1 244 283 245 room ls x.lc=R):=⟨_,rfl⟩;rw [uF.out]at uy HL;replace dV:=hd dV;clear hR hq Rj hw bC dI LF hsl ai oJ kU Rk hBl' nZ di PE fW Zb iv iG gU bu uF hQ aD hT hK;go_upto_region 4 with(go_at_call 118;refine uy.mono ?_;intro e w2 hO;obtain ⟨bo,FP,rfl,⟨u14,v14⟩,HA⟩:=HL.out e w2 hO;clear hO;replace HA:=hd HA);obtain ⟨V,hV⟩:=Haa (w2.setCell ⟨bq,14,none⟩ (.pointer (some ⟨bo,0,none⟩)));rw [hV.out]at HA⊢;clear hV u14 v14 uy HL d10 d14;obtain ⟨-,-,d11,-,-,-,d7⟩:=HD.out V HA.out.mod;obtain ⟨e0,e1⟩:=HC.out V _ _ _ _ HA.out;go_upto_if 38 with fail;go_cut [] (fun wy=>Hid (∃iX,nJ W0 p bp a n c x bq bw FW (lI p T L) wy bo FP iX))
 case first=>
  by_cases h0:0<T
  ·have qy:=tnumC (w:=V.drew) e0 hp;have PG:=aZ.TI HA.out.drew.wh (id:=2*(p:Int)) (due:=T) ⟨⟨by simp only;omega,by simp only;omega⟩,by simp only;omega,by simp only;omega⟩ (by omega);go_upto_region 5 with fail
   go_region_law (first
    |(go_simp;(with_reducible refine qy.mono ?_);rintro e w1 ⟨rfl,rfl⟩)
    |(go_simp;(with_reducible refine PG.mono ?_);rintro e w2 ⟨rfl,ho⟩))
   all_goals (
    go_wp2_with fail;go_meet
    case rel=>exact hd (by unfold lI;rw [aah h0];exact HA.out.drew.set dV.out LH.out ho))
  ·have GY:decide (0<T)=false:=by simpa using h0
   have PH:T<=0:=by omega
   go_wp2_with fail;go_meet
   case rel=>exact hd (by unfold lI;rw [aaf (Int.not_lt.2 PH)];exact ⟨_,HA.out⟩)
 case rest=>
  obtain ⟨FW1,HB⟩:=hcut.out;replace HB:=hd HB;clear HA hcut d11 d7 e0 e1;have hL1:(lI p T L).length<=65:=by
   unfold lI;split
   ·have:=aZ.NK HGL.out (2*(p:Int)) T;split at this<;>omega
   ·omega
  obtain ⟨-,-,-,-,d13,-,d7⟩:=HD.out wc HB.out.mod;obtain ⟨e0,e1⟩:=HC.out wc _ _ _ _ HB.out;by_cases h0:0<K
  ·have qy:=snumC (w:=wc.drew) e0 hp;have PG:=aZ.TI HB.out.drew.wh (id:=2*(p:Int)+1) (due:=K) ⟨⟨by simp only;omega,by simp only;omega⟩,by simp only;omega,by simp only;omega⟩ (by omega);go_upto_region 7 with fail
   go_region_law (first
    |(go_simp;(with_reducible refine qy.mono ?_);rintro e w1 ⟨rfl,rfl⟩)
    |(go_simp;(with_reducible refine PG.mono ?_);rintro e w2 ⟨rfl,ho⟩))
   all_goals (
    go_wp2_with fail;try go_end0
    refine HE.out w2 ?_;unfold wJ;rw [aah h0];obtain ⟨F2,h2⟩:=HB.out.drew.set dV.out LH.out ho
    exact ⟨bo,FP,F2,h2⟩)
  ·have GY:decide (0<K)=false:=by simpa using h0
   have PH:K<=0:=by omega
   go_wp2_with fail;try go_end0
   refine HE.out wc ?_;unfold wJ;rw [aaf (Int.not_lt.2 PH)];exact ⟨bo,FP,FW1,HB.out⟩
def fT(c:ak)(q:Nat):ak:={c with procs:=c.procs.take q}
def Lay.tr(l:Lay)(q:Nat):Lay:={l with c:=fT l.c q}
theorem M0{l:List Pr}(h:p<q):(l.take q).getD p default=l.getD p default:=by
 rw [aac,aac,aaO,aah h]
theorem On{c:ak}(h:p<q):pa (fT c q) p=pa c p:=by unfold pa fT;rw [M0 h]
theorem Oo{c:ak}(h:p<q):cd (fT c q) p=cd c p:=by unfold cd fT;rw [M0 h]
theorem NX{c:ak}(i:Nat)(h:q<=c.procs.length):aQ (fT c q) i=(List.range q).filter (fun p=>decide ((c.procs.getD p default).part=(i:Int))):=by
 unfold aQ fT;simp only [List.length_take,Nat.min_eq_left h];apply List.filter_congr;intro p hp;rw [M0 (by simpa using hp)]
theorem JB{c:ak}(i:Nat)(h:q<c.procs.length):aQ (fT c (q+1)) i=aQ (fT c q) i++(if(c.procs.getD q default).part=(i:Int)then[q]else[]):=by
 rw [NX i (by omega),NX i (by omega),abC,List.filter_append];congr 1;by_cases e:(c.procs.getD q default).part=(i:Int)
 ·rw [aah e,List.filter_cons_of_pos (by simpa using e),List.filter_nil]
 ·rw [aaf e,List.filter_cons_of_neg (by simpa using e),List.filter_nil]
theorem VC{c:ak}(h:p∈aQ (fT c q) i):p<q:=by
 have:=(kG.1 h).1;simp only [fT,List.length_take]at this;omega
theorem tru_all(c:ak):fT c c.procs.length=c:=by
 unfold fT;rw [abg]
def py{α:Type}(f:Nat->α)(i:Nat)(v:α):Nat->α:=fun k=>if k=i then v else f k
theorem mE(f:Nat->α)(i:Nat)(v:α):py f i v i=v:=aah rfl
theorem BK(f:Nat->α){j:Nat}(v:α)(h:j≠i):py f i v j=f j:=aaf h
theorem NY(f:Nat->Nat)(i v:Nat)(l:List Nat)(h:i∉l):l.map (py f i v)=l.map f:=List.map_congr_left (fun _ hx=>BK f v (fun e=>h (e▸hx)))
theorem range_upd(f:Nat->Nat)(n v:Nat):(List.range (n+1)).map (py f n v)=(List.range n).map f++[v]:=by
 rw [abC,abd,NY f n v _ (by simp)];simp [mE]
def my(np a:Nat):Ix->Prop
 | .part i=>i<np
 | .kB i=>i<np
 | .dU i=>i<np
 | .proc p=>p<a
 | .jQ p=>p<a
 |_=>True
def oK(a b:Nat):Ix->Nat
 | .part _=>b
 |_=>a
def maL(l:Lay)(tick:Int)(np q:Nat):Array Value:=#[.slice l.g.la l.c.labels.length l.g.lc,.slice l.g.ta l.c.table.length l.g.tc,.int .i64 l.c.fuel,.int .i64 l.c.lane,.int .i64 l.c.aF,.int .i64 l.c.log,.slice l.g.pa l.c.procs.length l.g.pc,
 .pointer (some ⟨l.bt,0,none⟩),.pointer (some ⟨l.bs,0,none⟩),.int .i64 tick,.slice l.ap np l.cp,.slice l.aq q l.cq]
structure Iv(l:Lay)(tick:Int)(np q:Nat)(wr:World)(F:Nat->Prop):Prop where
 hd:wr.heap[l.bm]?=some (.cells (maL l tick np q) 163 (0,0))
 rp:Row wr 166 1 l.ap np l.cp (lU ((List.range np).map l.bp))
 rq:Row wr 168 1 l.aq q l.cq (lU ((List.range q).map l.bq))
 n1:∀k,ae l.ap=some k->k≠l.bm/\ae l.aq≠some k
 n2:∀k,ae l.aq=some k->k≠l.bm
 f0:F l.bm
 f1:∀k,ae l.ap=some k->F k
 f2:∀k,ae l.aq=some k->F k
theorem Iv.mod{tick:Int}{w':World}{F:Nat->Prop}(h:Iv l tick np q w F)(hm:Mod S w w')(hn:∀k,F k->¬S k):Iv l tick np q w' F:=
 ⟨by rw [hm.block _ (aab.1 h.hd).1 (hn _ h.f0)];exact h.hd,h.rp.mod hm (fun k hk=>hn k (h.f1 k hk)),h.rq.mod hm (fun k hk=>hn k (h.f2 k hk)),h.n1,h.n2,h.f0,h.f1,h.f2⟩
structure iY(W:World)(l:Lay)(m:MS)(np a b q:Nat)(wr:World)(Fs:Ix->Nat->Prop):Prop where
 hh:Iv l m.tick np q wr (Fs .head)
 cmp:∀x,my np a x->x≠.head->ib (l.tr (oK a b x)) m x wr (Fs x)
 ge:∀x,my np a x->∀k,Fs x k->W.heap.size<=k/\k<wr.heap.size
 ap:∀x y,my np a x->my np a y->x≠y->∀k,Fs x k->¬Fs y k
 au:Below W.heap.size W wr
theorem iY.below{a:Nat}{Fs:Ix->Nat->Prop}(h:iY W l m np a b q wr Fs)(hb:Below wr.heap.size wr w1):iY W l m np a b q w1 Fs:=by
 have hm:=Mod.aS (fun _=>False) hb;exact ⟨h.hh.mod hm (fun _ _ h=>h),fun x h1 h2=>(h.cmp x h1 h2).mod hm (fun _ _ h=>h),fun x h1 k hk=>⟨(h.ge x h1 k hk).1,aam (h.ge x h1 k hk).2 hb.size⟩,h.ap,h.au.trans (hb.mono h.au.size)⟩
theorem iY.LK{l':Lay}{a ET a' b' q':Nat}{Fs bG:Ix->Nat->Prop}(h:iY W l m np a b q wr Fs)(C:Ix->Prop)(hm:Mod S wr w1)(hS:∀k,S k->W.heap.size<=k)
 (hh:Iv l' m.tick ET q' w1 (bG .head))
 (hold:∀x,my ET a' x->¬C x->my np a x/\bG x=Fs x/\(∀k,Fs x k->¬S k)/\(ib (l.tr (oK a b x)) m x w1 (Fs x)->ib (l'.tr (oK a' b' x)) m x w1 (Fs x)))
 (ko:∀x,my ET a' x->C x->(x≠.head->ib (l'.tr (oK a' b' x)) m x w1 (bG x))/\∀k,bG x k->((my np a x/\Fs x k)\/wr.heap.size<=k)/\k<w1.heap.size)
 (aO:∀x y,my ET a' x->my ET a' y->C x->C y->x≠y->∀k,wr.heap.size<=k->bG x k->¬bG y k):iY W l' m ET a' b' q' w1 bG:=by
 have cD:=hm.size;have Bf:=h.au.size;refine ⟨hh,fun x h1 h2=> ?_,fun x h1 k hk=> ?_,fun x y h1 h2 ml k hk bk=> ?_, ?_⟩
 ·by_cases e:C x
  ·exact (ko x h1 e).1 h2
  ·obtain ⟨o1,o2,o3,o4⟩:=hold x h1 e;rw [o2];exact o4 ((h.cmp x o1 h2).mod hm o3)
 ·by_cases e:C x
  ·obtain ⟨o1,o2⟩:=(ko x h1 e).2 k hk;refine ⟨?_,o2⟩;rcases o1 with⟨o3,o4⟩|o3
   ·exact (h.ge x o3 k o4).1
   ·omega
  ·obtain ⟨o1,o2,-,-⟩:=hold x h1 e;rw [o2]at hk;have:=h.ge x o1 k hk;exact ⟨this.1,by omega⟩
 ·by_cases e:C x
  ·by_cases e2:C y
   ·by_cases e3:wr.heap.size<=k
    ·exact aO x y h1 h2 e e2 ml k e3 hk bk
    ·rcases ((ko x h1 e).2 k hk).1 with⟨o1,o2⟩|o1
     ·rcases ((ko y h2 e2).2 k bk).1 with⟨o3,o4⟩|o3
      ·exact h.ap x y o1 o3 ml k o2 o4
      ·omega
     ·omega
   ·obtain ⟨o1,o2,-,-⟩:=hold y h2 e2;rw [o2]at bk;have:=(h.ge y o1 k bk).2;rcases ((ko x h1 e).2 k hk).1 with⟨o3,o4⟩|o3
    ·exact h.ap x y o3 o1 ml k o4 bk
    ·omega
  ·obtain ⟨o1,o2,-,-⟩:=hold x h1 e;rw [o2]at hk;have af:=(h.ge x o1 k hk).2;by_cases e2:C y
   ·rcases ((ko y h2 e2).2 k bk).1 with⟨o3,o4⟩|o3
    ·exact h.ap x y o1 o3 ml k hk o4
    ·omega
   ·obtain ⟨o3,o4,-,-⟩:=hold y h2 e2;rw [o4]at bk;exact h.ap x y o1 o3 ml k hk bk
 ·exact ((Mod.aS (fun k=>W.heap.size<=k) h.au).trans hm (fun k hk=> .inl (hS k hk))).below (aag _) (fun k _ hk=>hk)
def Lay.nK(l:Lay)(np G bl bw:Nat)(a:Option Addr)(c:Nat):Lay:={l with bp:=py l.bp np G,bl:=py l.bl np bl,bw:=py l.bw np bw,ar:=py l.ar np none,cr:=py l.cr np 0,ap:=a,cp:=c}
theorem iY.nK{Fs:Ix->Nat->Prop}(h:iY W l m np 0 0 0 wr Fs){G:Nat}{bl:Nat}{FL:Nat->Prop}(hL:Kt wr np (aM m np) w1 G a c bw FW bl FL)
 {a':Option Addr}{c':Nat}(hr:Row w2 166 1 a' (np+1) c' (lU ((List.range np).map l.bp)++[.pointer (some ⟨G,0,none⟩)]))(cO:Mod (fun k=>ae l.ap=some k) w1 w2)(hn:∀k,ae a'=some k->ae l.ap=some k\/w1.heap.size<=k):
 ∃bG,iY W (l.nK np G bl bw a' c') m (np+1) 0 0 0 (w2.setCell ⟨l.bm,10,none⟩ (.slice a' (np+1) c')) bG:=by
 have hb:=hL.au;have h1:=h.below hb;have cD:=hb.size;have mT:=cO.size;have Bf:=h.au.size;have ia:Mod (fun k=>k=l.bm) w2 (w2.setCell ⟨l.bm,10,none⟩ (.slice a' (np+1) c')):=dP _ _ _ _;have fQ:Mod (fun k=>k=l.bm\/ae l.ap=some k) wr (w2.setCell ⟨l.bm,10,none⟩ (.slice a' (np+1) c')):=
  ((Mod.aS _ hb).trans (cO.mono (fun k _ e=> .inr e):Mod (fun k=>k=l.bm\/ae l.ap=some k) _ _) (fun _ h=> .inl h)).trans ia (fun k e=> .inl (.inl e))
 have di:Mod (fun k=>k=l.bm\/ae l.ap=some k) w1 (w2.setCell ⟨l.bm,10,none⟩ (.slice a' (np+1) c')):=(cO.mono (fun k _ e=> .inr e):Mod (fun k=>k=l.bm\/ae l.ap=some k) _ _).trans ia (fun k e=> .inl (.inl e));have kY:=h.hh.f0;have hbml:=(h.ge .head trivial _ kY);have Xl:∀k,ae l.ap=some k->W.heap.size<=k/\k<wr.heap.size:=fun k hk=>h.ge .head trivial k (h.hh.f1 k hk)
 have jr:∀k,(k=l.bm\/ae l.ap=some k)->Fs .head k:=fun k hk=>by
  rcases hk with rfl|hk
  ·exact kY
  ·exact h.hh.f1 k hk
 have hold:∀k,wr.heap.size<=k->¬(k=l.bm\/ae l.ap=some k):=fun k hk bk=>by
  have:=(h.ge .head trivial k (jr k bk)).2;omega
 have qm:∀k,k<w1.heap.size->k<(w2.setCell ⟨l.bm,10,none⟩ (.slice a' (np+1) c')).heap.size:=fun k hk=>by
  have:=ia.size;omega
 refine ⟨fun x k=>match x with
  | .head=>k=l.bm\/ae a'=some k\/ae l.aq=some k
  | .part i=>if i=np then k=G\/ae a=some k else Fs x k
  | .kB i=>if i=np then FL k else Fs x k
  | .dU i=>if i=np then FW k else Fs x k
  |_=>Fs x k,h.LK (fun x=>x=.head\/x=.part np\/x=.kB np\/x=.dU np) fQ ?_ ?_ ?_ ?_ ?_⟩
 ·rintro k (rfl|hk)
  ·exact hbml.1
  ·exact (Xl k hk).1
 ·have e2:w2.heap[l.bm]?=_:=(cO.block _ (by omega) (fun e=>(h.hh.n1 _ e).1 rfl)).trans h1.hh.hd;refine ⟨?_, ?_, ?_,fun k hk=> ?_,h.hh.n2,.inl rfl,fun k hk=> .inr (.inl hk),fun k hk=> .inr (.inr hk)⟩
  ·show(w2.setCell ⟨l.bm,10,none⟩ (.slice a' (np+1) c')).heap[l.bm]?=_;rw [aU e2];rfl
  ·show Row _ _ _ a' _ c' (lU ((List.range (np+1)).map (py l.bp np G)));rw [range_upd,NS];refine hr.mod ia (fun k hk e=> ?_);rcases hn k hk with h2|h2
   ·exact (h.hh.n1 k h2).1 e
   ·omega
  ·exact h1.hh.rq.mod di (fun k hk e=>by
    rcases e with e|e
    ·exact h.hh.n2 k hk e
    ·exact (h.hh.n1 k e).2 hk)
  ·have jk:ae a'=some k:=hk;show k≠l.bm/\ae l.aq≠some k;rcases hn k jk with h2|h2
   ·exact h.hh.n1 k h2
   ·exact ⟨by omega,fun e=>by have:=h.hh.rq.lt k e;omega⟩
 ·intro x hx hC
  have bC:∀i,x=.part i\/x=.kB i\/x=.dU i->i≠np:=fun i hi e=>hC (by
   subst e;rcases hi with e|e|e
   ·exact .inr (.inl e)
   ·exact .inr (.inr (.inl e))
   ·exact .inr (.inr (.inr e)))
  have j8:x≠.head:=fun e=>hC (.inl e)
  have hd:my np 0 x->∀k,Fs x k->¬(k=l.bm\/ae l.ap=some k):=fun ho k hk bk=>h.ap x .head ho trivial j8 k hk (jr k bk)
  cases x with
  |head=>exact absurd rfl j8
  |rF=>exact ⟨trivial,rfl,hd trivial,fun hc=>hc⟩
  |slt=>exact ⟨trivial,rfl,hd trivial,fun hc=>hc⟩
  |part i=>
   have hi:=bC i (.inl rfl);have ho:my np 0 (.part i):=by have:i<np+1:=hx;show i<np;omega
   refine ⟨ho,funext fun k=>by simp only [if_neg hi],hd ho,fun hc=> ?_⟩;simpa only [ib,rH,Lay.tr,Lay.nK,BK _ _ hi]using hc
  |kB i=>
   have hi:=bC i (.inr (.inl rfl));have ho:my np 0 (.kB i):=by have:i<np+1:=hx;show i<np;omega
   refine ⟨ho,funext fun k=>by simp only [if_neg hi],hd ho,fun hc=> ?_⟩;simpa only [ib,Lay.tr,Lay.nK,BK _ _ hi]using hc
  |dU i=>
   have hi:=bC i (.inr (.inr rfl));have ho:my np 0 (.dU i):=by have:i<np+1:=hx;show i<np;omega
   refine ⟨ho,funext fun k=>by simp only [if_neg hi],hd ho,fun hc=> ?_⟩;simpa only [ib,Lay.tr,Lay.nK,BK _ _ hi]using hc
  |proc p=>exact absurd (show p<0 from hx) (aao p)
  |jQ p=>exact absurd (show p<0 from hx) (aao p)
 ·have LN:∀k,wr.heap.size<=k->(k=l.bm\/ae l.ap=some k)->False:=fun k hk e=>hold k hk e
  have he:aQ (fT l.c 0) np=[]:=by
   rw [NX np (aaq _)];rfl
  rintro x hx (rfl|rfl|rfl|rfl)
  ·refine ⟨fun e=>absurd rfl e,fun k hk=> ?_⟩;rcases hk with rfl|hk|hk
   ·exact ⟨.inl ⟨trivial,kY⟩,qm _ (by omega)⟩
   ·refine ⟨?_,by have:=hr.lt k hk;have:=ia.size;omega⟩;rcases hn k hk with h2|h2
    ·exact .inl ⟨trivial,h.hh.f1 k h2⟩
    ·exact .inr (by omega)
   ·have h2:=h.hh.f2 k hk;exact ⟨.inl ⟨trivial,h2⟩,qm _ (by have:=(h.ge .head trivial k h2).2;omega)⟩
  ·refine ⟨fun _=> ?_,fun k hk=> ?_⟩
   ·simp only [if_true];refine ⟨a,c, ?_, ?_,hL.row.mod di (fun k hk e=>LN k (hL.ga k hk).1 e), ?_, ?_, ?_,.inl ?_, ?_,fun k hk=> .inr hk⟩
    ·simp only [Lay.tr,Lay.nK,mE,rH,oK,he,List.length_nil];rw [di.block _ (aab.1 hL.hd).1 (fun e=>LN G hL.gG e)];exact hL.hd
    ·simp only [Lay.tr,Lay.nK,mE,oK,he,List.length_nil,List.map_nil];exact Row.nil
    ·simp only [Lay.tr,Lay.nK,mE];exact fun e=>by cases e
    ·simp only [Lay.tr,Lay.nK,mE];exact fun e=>(hL.ga G e).2.1 rfl
    ·simp only [Lay.tr,Lay.nK,mE];exact fun _ _ e=>by cases e
    ·simp only [Lay.tr,Lay.nK,mE]
    ·simp only [Lay.tr,Lay.nK,mE];exact fun _ e=>by cases e
   ·simp only [if_true]at hk;rcases hk with rfl|hk
    ·exact ⟨.inr hL.gG,qm _ (aab.1 hL.hd).1⟩
    ·exact ⟨.inr (hL.ga k hk).1,qm _ (hL.row.lt k hk)⟩
  ·refine ⟨fun _=> ?_,fun k hk=> ?_⟩
   ·simp only [if_true,ib,Lay.tr,Lay.nK,mE];exact hL.lk.mod di (fun k hk e=>LN k (hL.gL k hk).1 e)
   ·simp only [if_true]at hk;exact ⟨.inr (hL.gL k hk).1,qm _ (aV.Lk.lt hL.lk k hk)⟩
  ·refine ⟨fun _=> ?_,fun k hk=> ?_⟩
   ·simp only [if_true,ib,Lay.tr,Lay.nK,mE,oK];refine ⟨[],hL.wh.mod di (fun k hk e=>LN k (hL.gW k hk).1 e),fun t=>⟨fun ht=>absurd ht aaF, ?_⟩⟩;rintro ⟨p,hp,_⟩;rw [he]at hp;exact absurd hp aaF
   ·simp only [if_true]at hk;exact ⟨.inr (hL.gW k hk).1,qm _ (hL.wh.lt k hk)⟩
 ·have D5:∀k,(k=G\/ae a=some k)->k<w1.heap.size:=fun k hk=>by
   rcases hk with rfl|hk
   ·exact (aab.1 hL.hd).1
   ·exact hL.row.lt k hk
  have Xm:∀k,FL k->k<w1.heap.size:=aV.Lk.lt hL.lk;have Xn:∀k,FW k->k<w1.heap.size:=hL.wh.lt;have EU:∀k,wr.heap.size<=k->(k=l.bm\/ae a'=some k\/ae l.aq=some k)->w1.heap.size<=k:=fun k hk e=>by
   rcases e with e|e|e
   ·omega
   ·rcases hn k e with h2|h2
    ·have:=(Xl k h2).2;omega
    ·exact h2
   ·have:=(h.ge .head trivial k (h.hh.f2 k e)).2;omega
  rintro x y hx hy (rfl|rfl|rfl|rfl) (rfl|rfl|rfl|rfl) ml k hk h1 h2<;>first|exact absurd rfl ml|skip
  all_goals simp only [if_true]at h1 h2
  ·have:=EU k hk h1;have:=D5 k h2;omega
  ·have:=EU k hk h1;have:=Xm k h2;omega
  ·have:=EU k hk h1;have:=Xn k h2;omega
  ·have:=EU k hk h2;have:=D5 k h1;omega
  ·rcases h1 with rfl|h1
   ·exact (hL.gL _ h2).2 rfl
   ·exact (hL.ga k h1).2.2.2 h2
  ·rcases h1 with rfl|h1
   ·exact (hL.gW _ h2).2.1 rfl
   ·exact (hL.ga k h1).2.2.1 h2
  ·have:=EU k hk h2;have:=Xm k h1;omega
  ·rcases h2 with rfl|h2
   ·exact (hL.gL _ h1).2 rfl
   ·exact (hL.ga k h2).2.2.2 h1
  ·exact (hL.gW k h2).2.2 h1
  ·have:=EU k hk h2;have:=Xn k h1;omega
  ·rcases h2 with rfl|h2
   ·exact (hL.gW _ h1).2.1 rfl
   ·exact (hL.ga k h2).2.2.1 h1
  ·exact (hL.gW k h1).2.2 h2
def Lay.kR(l:Lay)(q bq bo:Nat):Lay:={l with bq:=py l.bq q bq,bo:=py l.bo q bo}
def Lay.uT(l:Lay)(i:Nat)(a:Option Addr)(c:Nat):Lay:={l with ar:=py l.ar i a,cr:=py l.cr i c}
def Lay.Kw(l:Lay)(a:Option Addr)(c:Nat):Lay:={l with aq:=a,cq:=c}
theorem Ur{id due:Int}{L:List aZ.Th}{t:aZ.Th}(hn:∀u∈L,u.2≠id):t∈aZ.mF id due L↔t∈L\/t=(due,id):=by
 unfold aZ.mF;simp only [List.mem_append,aZ.pK,List.mem_singleton];constructor
 ·rintro (⟨h,_⟩|h)
  ·exact .inl h
  ·exact .inr h
 ·rintro (h|h)
  ·exact .inl ⟨h,hn t h⟩
  ·exact .inr h
theorem wok_same{c:ak}{L:List aZ.Th}(hq:q<c.procs.length)(hi:(c.procs.getD q default).part≠(i:Int))(h:kC (fT c q) m i L):kC (fT c (q+1)) m i L:=by
 unfold kC;rw [JB i hq,aaf hi,abD];exact h
theorem wok_next{c:ak}{L:List aZ.Th}(hq:q<c.procs.length)(hi:(c.procs.getD q default).part=(i:Int))(h:kC (fT c q) m i L):kC (fT c (q+1)) m i (wJ q (aB m q).bE (lI q (aB m q).timer L)):=by
 have hL:∀u∈L,u.2<2*(q:Int):=fun u hu=>by
  obtain ⟨p,hp,hh⟩:=(h u).1 hu;have pg:=VC hp;rcases hh with⟨rfl,_⟩|⟨rfl,_⟩<;>simp only<;>omega
 have h1:∀t,t∈lI q (aB m q).timer L↔t∈L\/(t=((aB m q).timer,2*(q:Int))/\0<(aB m q).timer):=fun t=>by
  unfold lI;split
  ·next e=>rw [Ur (fun u hu=>by have:=hL u hu;omega)];simp [e]
  ·next e=>simp [e]
 have h2:∀u∈lI q (aB m q).timer L,u.2≠2*(q:Int)+1:=fun u hu=>by
  rcases (h1 u).1 hu with hu|⟨rfl,_⟩
  ·have:=hL u hu;omega
  ·simp only;omega
 have h3:∀t,t∈wJ q (aB m q).bE (lI q (aB m q).timer L)↔t∈lI q (aB m q).timer L\/(t=((aB m q).bE,2*(q:Int)+1)/\0<(aB m q).bE):=fun t=>by
  unfold wJ;split
  ·next e=>rw [Ur h2];simp [e]
  ·next e=>simp [e]
 intro t;rw [h3,h1,JB i hq,aah hi,h t];constructor
 ·rintro ((⟨p,hp,hh⟩|hh)|hh)
  ·exact ⟨p,List.mem_append_left _ hp,hh⟩
  ·exact ⟨q,List.mem_append_right _ (aaL.2 rfl),.inl hh⟩
  ·exact ⟨q,List.mem_append_right _ (aaL.2 rfl),.inr hh⟩
 ·rintro ⟨p,hp,hh⟩;rcases aaX.1 hp with hp|hp
  ·exact .inl (.inl ⟨p,hp,hh⟩)
  ·cases aaL.1 hp
   rcases hh with hh|hh
   ·exact .inl (.inr hh)
   ·exact .inr hh
theorem iY.kR{w0:World}{Fs:Ix->Nat->Prop}(h:iY W l m np q q q wr Fs)(hq:q<l.c.procs.length)(hi:pa l.c q<np)(wm:(l.c.procs.getD q default).part=(pa l.c q:Int))(ai:Below wr.heap.size wr w0)(oO:wr.heap.size<=bq)(cQ:bq<w0.heap.size){L:List aZ.Th}(hL:kC (fT l.c q) m (pa l.c q) L)
 {bo:Nat}{FP iX:Nat->Prop}(hA:nJ w0 q (l.bp (pa l.c q)) (sQ l q).a (cd l.c q).length (sQ l q).c (aB m q) bq (l.bw (pa l.c q)) (Fs (.dU (pa l.c q))) (wJ q (aB m q).bE (lI q (aB m q).timer L)) w1 bo FP iX):∃bG,iY W (l.kR q bq bo) m np (q+1) q q w1 bG:=by
 have bu:=ai.size;have Rl:=hA.mod.size;have Bf:=h.au.size;have Xo:∀k,Fs (.dU (pa l.c q)) k->W.heap.size<=k/\k<wr.heap.size:=h.ge (.dU (pa l.c q)) hi;have fQ:Mod (fun k=>k=bq\/Fs (.dU (pa l.c q)) k) wr w1:=(Mod.aS _ ai).trans hA.mod (fun _ hk=> .inl hk);have Zc:∀x,my np q x->x≠.dU (pa l.c q)->∀k,Fs x k->¬(k=bq\/Fs (.dU (pa l.c q)) k):=fun x hx bC k hk hs=>by
  rcases hs with rfl|hs
  ·have:=(h.ge x hx _ hk).2;omega
  ·exact h.ap x (.dU (pa l.c q)) hx hi bC k hk hs
 refine ⟨fun x k=>match x with
  | .proc p=>if p=q then k=bq else Fs x k
  | .jQ p=>if p=q then FP k else Fs x k
  | .dU i=>if i=pa l.c q then iX k else Fs x k
  |_=>Fs x k,h.LK (fun x=>x=.head\/x=.dU (pa l.c q)\/x=.proc q\/x=.jQ q) fQ ?_ ?_ ?_ ?_ ?_⟩
 ·rintro k (rfl|hk)
  ·omega
  ·exact (Xo k hk).1
 ·have h1:=h.hh.mod fQ (Zc .head trivial (by simp));refine ⟨h1.hd,h1.rp, ?_,h1.n1,h1.n2,h1.f0,h1.f1,h1.f2⟩;show Row _ _ _ l.aq _ l.cq (lU ((List.range q).map (py l.bq q bq)));rw [NY l.bq q bq _ (by simp)];exact h1.rq
 ·intro x hx hC;have hw:∀i,x=.dU i->i≠pa l.c q:=fun i e e2=>hC (.inr (.inl (by rw [e,e2])))
  have xl:∀p,x=.proc p->p≠q:=fun i e e2=>hC (.inr (.inr (.inl (by rw [e,e2]))))
  have sH:∀p,x=.jQ p->p≠q:=fun i e e2=>hC (.inr (.inr (.inr (by rw [e,e2]))))
  have hd:my np q x->∀k,Fs x k->¬(k=bq\/Fs (.dU (pa l.c q)) k):=fun ho=>Zc x ho (fun e=>hw _ e rfl)
  cases x with
  |head=>exact absurd (.inl rfl) hC
  |rF=>exact ⟨trivial,rfl,hd trivial,fun hc=>hc⟩
  |slt=>exact ⟨trivial,rfl,hd trivial,fun hc=>hc⟩
  |part i=>
   refine ⟨hx,rfl,hd hx,fun hc=> ?_⟩;have e:((aQ (fT l.c q) i).map (py l.bq q bq))=(aQ (fT l.c q) i).map l.bq:=NY _ _ _ _ (fun hm=>Nat.lt_irrefl _ (VC hm));simp only [ib,rH,Lay.tr,Lay.kR,oK]at hc⊢;rw [e];exact hc
  |kB i=>exact ⟨hx,rfl,hd hx,fun hc=>hc⟩
  |dU i=>
   have mM:=hw i rfl;refine ⟨hx,funext fun k=>by simp only [if_neg mM],hd hx,fun hc=> ?_⟩;obtain ⟨L,h1,h2⟩:=hc;exact ⟨L,h1,wok_same hq (by show(l.c.procs.getD q default).part≠(i:Int);rw [wm];omega) h2⟩
  |proc p=>
   have Ep:=xl p rfl;have ho:my np q (.proc p):=by have:p<q+1:=hx;show p<q;omega
   have af:p<q:=ho;refine ⟨ho,funext fun k=>by simp only [if_neg Ep],hd ho,fun hc=> ?_⟩;simpa only [ib,rI,sQ,Lay.tr,Lay.kR,oK,BK _ _ Ep,On af,Oo af,On hx,Oo hx]using hc
  |jQ p=>
   have Ep:=sH p rfl;have ho:my np q (.jQ p):=by have:p<q+1:=hx;show p<q;omega
   refine ⟨ho,funext fun k=>by simp only [if_neg Ep],hd ho,fun hc=> ?_⟩;simpa only [ib,Lay.tr,Lay.kR,BK _ _ Ep]using hc
 ·have fW:q<q+1:=Nat.lt_succ_self q;rintro x hx (rfl|rfl|rfl|rfl)
  ·exact ⟨fun e=>absurd rfl e,fun k hk=>⟨.inl ⟨trivial,hk⟩,by have:=(h.ge .head trivial k hk).2;omega⟩⟩
  ·refine ⟨fun _=> ?_,fun k hk=> ?_⟩
   ·simp only [if_true];exact ⟨_,hA.wh,wok_next hq wm hL⟩
   ·simp only [if_true]at hk;refine ⟨?_,hA.wh.lt k hk⟩;rcases hA.gW k hk with e|e
    ·exact .inl ⟨hi,e⟩
    ·exact .inr (by omega)
  ·refine ⟨fun _=> ?_,fun k hk=> ?_⟩
   ·simp only [if_true,ib,rI,sQ,Lay.tr,Lay.kR,oK,mE,On fW,Oo fW,and_true];exact hA.hd
   ·simp only [if_true]at hk;subst hk;exact ⟨.inr oO,by omega⟩
  ·refine ⟨fun _=> ?_,fun k hk=> ?_⟩
   ·simp only [if_true,ib,Lay.tr,Lay.kR,mE];exact hA.ps
   ·simp only [if_true]at hk;have:=(hA.gP k hk).1;exact ⟨.inr (by omega),aL.Ps.lt hA.ps k hk⟩
 ·have a1:¬iX bq:=fun e=>by
   rcases hA.gW _ e with e|e
   ·have:=(Xo _ e).2;omega
   ·omega
  have a2:∀k,FP k->¬iX k:=fun k hk=>(hA.gP k hk).2
  have a3:¬FP bq:=fun e=>by have:=(hA.gP _ e).1;omega
  have a4:∀k,wr.heap.size<=k->¬Fs .head k:=fun k hk e=>by have:=(h.ge .head trivial k e).2;omega
  rintro x y hx hy (rfl|rfl|rfl|rfl) (rfl|rfl|rfl|rfl) ml k hk h1 h2<;>first|exact absurd rfl ml|exact a4 k hk h1|exact a4 k hk h2|skip
  all_goals simp only [if_true]at h1 h2
  ·exact a1 (h2▸h1)
  ·exact a2 k h2 h1
  ·exact a1 (h1▸h2)
  ·exact a3 (h1▸h2)
  ·exact a2 k h1 h2
  ·exact a3 (h2▸h1)
theorem iY.uT{Fs:Ix->Nat->Prop}(h:iY W l m np (q+1) q q wr Fs)(hq:q<l.c.procs.length)(hi:pa l.c q<np)(wm:(l.c.procs.getD q default).part=(pa l.c q:Int))
 {n:Nat}(wM:n=(aQ (fT l.c q) (pa l.c q)).length){a':Option Addr}{c':Nat}(hr:Row w2 168 1 a' (n+1) c' (lU ((aQ (fT l.c q) (pa l.c q)).map l.bq)++[.pointer (some ⟨l.bq q,0,none⟩)]))(cO:Mod (fun k=>ae (l.ar (pa l.c q))=some k) wr w2)(hn:∀k,ae a'=some k->ae (l.ar (pa l.c q))=some k\/wr.heap.size<=k):
 ∃bG,iY W (l.uT (pa l.c q) a' c') m np (q+1) (q+1) q (w2.setCell ⟨l.bp (pa l.c q),1,none⟩ (.slice a' (n+1) c')) bG:=by
 subst wM;obtain ⟨la,lc,c1,c2,c3,c4,c5,c6,c7,c8,c9⟩:=h.cmp (.part (pa l.c q)) hi (by simp);have mT:=cO.size;have Bf:=h.au.size;have qQ:∀k,Fs (.part (pa l.c q)) k->W.heap.size<=k/\k<wr.heap.size:=h.ge (.part (pa l.c q)) hi;simp only [Lay.tr,oK,rH]at c1 c2 c4 c5 c6 c7 c8;have ia:Mod (fun k=>k=l.bp (pa l.c q)) w2 (w2.setCell ⟨l.bp (pa l.c q),1,none⟩ (.slice a' ((aQ (fT l.c q) (pa l.c q)).length+1) c')):=dP _ _ _ _;have fQ:Mod (fun k=>k=l.bp (pa l.c q)\/ae (l.ar (pa l.c q))=some k) wr (w2.setCell ⟨l.bp (pa l.c q),1,none⟩ (.slice a' ((aQ (fT l.c q) (pa l.c q)).length+1) c')):=
  (cO.mono (fun k _ e=> .inr e):Mod (fun k=>k=l.bp (pa l.c q)\/ae (l.ar (pa l.c q))=some k) _ _).trans ia (fun k e=> .inl (.inl e))
 have jr:∀k,(k=l.bp (pa l.c q)\/ae (l.ar (pa l.c q))=some k)->Fs (.part (pa l.c q)) k:=fun k hk=>by
  rcases hk with rfl|hk
  ·exact c7
  ·exact c8 k hk
 have cQ:=(qQ _ c7).2;have Xp:aQ (fT l.c (q+1)) (pa l.c q)=aQ (fT l.c q) (pa l.c q)++[q]:=by rw [JB _ hq,aah wm]
 refine ⟨fun x k=>match x with
  | .part i=>if i=pa l.c q then k=l.bp (pa l.c q)\/ae a'=some k\/ae la=some k else Fs x k
  |_=>Fs x k,h.LK (fun x=>x=.part (pa l.c q)) fQ ?_ ?_ ?_ ?_ ?_⟩
 ·exact fun k hk=>(qQ k (jr k hk)).1
 ·have h1:=h.hh.mod fQ (fun k hk e=>h.ap .head (.part (pa l.c q)) trivial hi (by simp) k hk (jr k e));exact ⟨h1.hd,h1.rp,h1.rq,h1.n1,h1.n2,h1.f0,h1.f1,h1.f2⟩
 ·intro x hx hC;have hd:∀k,Fs x k->¬(k=l.bp (pa l.c q)\/ae (l.ar (pa l.c q))=some k):=fun k hk e=>h.ap x (.part (pa l.c q)) hx hi hC k hk (jr k e)
  refine ⟨hx, ?_,hd, ?_⟩
  ·cases x with
   |part i=>
    have mM:i≠pa l.c q:=fun e=>hC (by rw [e])
    exact funext fun k=>by simp only [if_neg mM]
   |_=>rfl
  ·cases x with
   |part i=>
    have mM:i≠pa l.c q:=fun e=>hC (by rw [e])
    have e:aQ (fT l.c (q+1)) i=aQ (fT l.c q) i:=by rw [JB _ hq,aaf (by rw [wm];omega),abD]
    intro hc;simpa only [ib,rH,Lay.tr,Lay.uT,oK,BK _ _ mM,e]using hc
   |_=>exact fun hc=>hc
 ·rintro x hx rfl;have bC:∀k,ae a'=some k->k≠l.bp (pa l.c q):=fun k hk e=>by
   rcases hn k hk with h2|h2
   ·exact c4 (by rw [h2,e])
   ·omega
  refine ⟨fun _=> ?_,fun k hk=> ?_⟩
  ·simp only [if_true];refine ⟨la,lc, ?_, ?_,c3.mod fQ (fun k hk e=> ?_), ?_,c5, ?_,.inl rfl, ?_,fun k hk=> .inr (.inr hk)⟩
   ·simp only [Lay.tr,Lay.uT,mE,rH,oK,Xp,List.length_append,List.length_singleton];have e2:w2.heap[l.bp (pa l.c q)]?=_:=(cO.block _ cQ (fun e=>c4 e)).trans c1;rw [aU e2];rfl
   ·simp only [Lay.tr,Lay.uT,mE,oK,Xp,List.length_append,List.length_singleton,List.map_append,List.map_cons,List.map_nil,NS];exact hr.mod ia (fun k hk e=>bC k hk e)
   ·rcases e with e|e
    ·exact c5 (by rw [hk,e])
    ·exact c6 k hk e
   ·simp only [Lay.tr,Lay.uT,mE];exact fun e=>bC _ e rfl
   ·simp only [Lay.tr,Lay.uT,mE];intro k hk e;rcases hn k e with h2|h2
    ·exact c6 k hk h2
    ·have:=c3.lt k hk;omega
   ·simp only [Lay.tr,Lay.uT,mE];exact fun k hk=> .inr (.inl hk)
  ·simp only [if_true]at hk;have cD:=ia.size;rcases hk with rfl|hk|hk
   ·exact ⟨.inl ⟨hi,c7⟩,by omega⟩
   ·refine ⟨?_,by have:=hr.lt k hk;omega⟩;rcases hn k hk with h2|h2
    ·exact .inl ⟨hi,c8 k h2⟩
    ·exact .inr h2
   ·exact ⟨.inl ⟨hi,c9 k hk⟩,by have:=c3.lt k hk;omega⟩
 ·rintro x y hx hy rfl rfl ml;exact absurd rfl ml
theorem iY.Kw{Fs:Ix->Nat->Prop}(h:iY W l m np (q+1) (q+1) q wr Fs)
 {a':Option Addr}{c':Nat}(hr:Row w2 168 1 a' (q+1) c' (lU ((List.range q).map l.bq)++[.pointer (some ⟨l.bq q,0,none⟩)]))(cO:Mod (fun k=>ae l.aq=some k) wr w2)(hn:∀k,ae a'=some k->ae l.aq=some k\/wr.heap.size<=k):
 ∃bG,iY W (l.Kw a' c') m np (q+1) (q+1) (q+1) (w2.setCell ⟨l.bm,11,none⟩ (.slice a' (q+1) c')) bG:=by
 have mT:=cO.size;have ia:Mod (fun k=>k=l.bm) w2 (w2.setCell ⟨l.bm,11,none⟩ (.slice a' (q+1) c')):=dP _ _ _ _;have fQ:Mod (fun k=>k=l.bm\/ae l.aq=some k) wr (w2.setCell ⟨l.bm,11,none⟩ (.slice a' (q+1) c')):=
  (cO.mono (fun k _ e=> .inr e):Mod (fun k=>k=l.bm\/ae l.aq=some k) _ _).trans ia (fun k e=> .inl (.inl e))
 have Zd:∀k,Fs .head k->W.heap.size<=k/\k<wr.heap.size:=h.ge .head trivial;have jr:∀k,(k=l.bm\/ae l.aq=some k)->Fs .head k:=fun k hk=>by
  rcases hk with rfl|hk
  ·exact h.hh.f0
  ·exact h.hh.f2 k hk
 have cQ:=(Zd _ h.hh.f0).2
 refine ⟨fun x k=>match x with
  | .head=>k=l.bm\/ae l.ap=some k\/ae a'=some k
  |_=>Fs x k,h.LK (fun x=>x=.head) fQ ?_ ?_ ?_ ?_ ?_⟩
 ·exact fun k hk=>(Zd k (jr k hk)).1
 ·have e2:w2.heap[l.bm]?=_:=(cO.block _ cQ (fun e=>h.hh.n2 _ e rfl)).trans h.hh.hd;have bC:∀k,ae a'=some k->k≠l.bm:=fun k hk e=>by
   rcases hn k hk with h2|h2
   ·exact h.hh.n2 k h2 e
   ·omega
  refine ⟨?_, ?_, ?_,fun k hk=>⟨(h.hh.n1 k hk).1,fun e=> ?_⟩,bC,.inl rfl,fun k hk=> .inr (.inl hk),fun k hk=> .inr (.inr hk)⟩
  ·show(w2.setCell ⟨l.bm,11,none⟩ (.slice a' (q+1) c')).heap[l.bm]?=_;rw [aU e2];rfl
  ·refine h.hh.rp.mod fQ (fun k hk e=> ?_);rcases e with e|e
   ·exact (h.hh.n1 k hk).1 e
   ·exact (h.hh.n1 k hk).2 e
  ·show Row _ _ _ a' _ c' (lU ((List.range (q+1)).map l.bq));rw [abC,abd,NS];exact hr.mod ia bC
  ·rcases hn k e with h2|h2
   ·exact (h.hh.n1 k hk).2 h2
   ·have:=h.hh.rp.lt k hk;omega
 ·intro x hx hC;refine ⟨hx, ?_,fun k hk e=>h.ap x .head hx trivial hC k hk (jr k e), ?_⟩
  ·cases x with
   |head=>exact absurd rfl hC
   |_=>rfl
  ·cases x with
   |head=>exact absurd rfl hC
   |_=>exact fun hc=>hc
 ·rintro x hx rfl;have cD:=ia.size;refine ⟨fun e=>absurd rfl e,fun k hk=> ?_⟩;rcases hk with rfl|hk|hk
  ·exact ⟨.inl ⟨trivial,h.hh.f0⟩,by omega⟩
  ·have:=h.hh.rp.lt k hk;exact ⟨.inl ⟨trivial,h.hh.f1 k hk⟩,by omega⟩
  ·refine ⟨?_,by have:=hr.lt k hk;omega⟩;rcases hn k hk with h2|h2
   ·exact .inl ⟨trivial,h.hh.f2 k h2⟩
   ·exact .inr h2
 ·rintro x y hx hy rfl rfl ml;exact absurd rfl ml
theorem iY.whole{Fs:Ix->Nat->Prop}(h:iY W l m l.c.labels.length l.c.procs.length l.c.procs.length l.c.procs.length wr Fs)(hb:CB wr l)(hK:∀k,l.K k->k<W.heap.size):∃U,Mk wr l U m/\∀k,U k->W.heap.size<=k:=by
 have htr:l.tr l.c.procs.length=l:=by unfold Lay.tr;rw [tru_all]
 have j7:∀x,l.ok x↔my l.c.labels.length l.c.procs.length x:=fun x=>by cases x<;>rfl
 have Kx:∀x,oK l.c.procs.length l.c.procs.length x=l.c.procs.length:=fun x=>by cases x<;>rfl
 refine ⟨fun k=>∃x,l.ok x/\Fs x k,⟨Fs,⟨hb,fun x hx=> ?_,fun x hx k hk=>(h.ge x ((j7 x).1 hx) k hk).2,fun x y hx hy=>h.ap x y ((j7 x).1 hx) ((j7 y).1 hy),fun x hx k hk bk=> ?_⟩,fun x hx k hk=>⟨x,hx,hk⟩, ?_, ?_⟩, ?_⟩
 ·by_cases e:x=.head
  ·subst e;exact ⟨h.hh.hd,h.hh.rp,h.hh.rq,fun e=>(h.hh.n1 _ e).1 rfl,fun e=>h.hh.n2 _ e rfl,h.hh.f0,h.hh.f1,h.hh.f2⟩
  ·have:=h.cmp x ((j7 x).1 hx) e;rw [Kx,htr]at this;exact this
 ·have:=(h.ge x ((j7 x).1 hx) k hk).1;have:=hK k bk;omega
 ·rintro k ⟨x,hx,hk⟩;exact (h.ge x ((j7 x).1 hx) k hk).2
 ·rintro k ⟨x,hx,hk⟩ bk;have:=(h.ge x ((j7 x).1 hx) k hk).1;have:=hK k bk;omega
 ·rintro k ⟨x,hx,hk⟩;exact (h.ge x ((j7 x).1 hx) k hk).1
end Go.Proofs.YthopnfbjiifhhaaGreatDoor
