/- One instruction of a process. -/
import Derived.Test.YthopnfbjiifhhaaGreatDoorGMh
set_option maxHeartbeats 8000000
set_option maxRecDepth 100000
namespace Go.Proofs.YthopnfbjiifhhaaGreatDoor
open Go.RowKit
def Gh(c:ak)(m1:MS)(p:Nat)(k:Int):MS:=if k=1 then yc c m1 p 5 else m1
section
variable{w w':World} {l:Lay} {m:MS} {U:Nat->Prop} {p q i j:Nat}
def Y3(w:World)(l:Lay)(U:Nat->Prop)(m1:MS)(gw:Nat)(k t v:Int)(wy:World):Prop:=
 ∃U1,To w U wy U1/\Mk wy l U1 m1/\wy.cell? ⟨gw,0,none⟩=some (.int .i64 k)/\wy.cell? ⟨gw,1,none⟩=some (.int .i64 t)/\wy.cell? ⟨gw,2,none⟩=some (.int .i64 v)/\gw<wy.heap.size/\¬U1 gw
theorem step_m(h:Mk w l U m)(hs:aG l.c m)(hc:dK l.c)(hp:p<l.c.procs.length)(ht:m.tick<=6917529027641081856):Calls Tryz.prog 129 #[.pointer (some ⟨l.bm,0,none⟩),.pointer (some ⟨l.bq p,0,none⟩)] w fun e w'=>e=.returned (.tuple #[])/\dm w l U (qH l.c m p) w':=by
 have pg:p<m.pr.length:=by rw [hs.nq];exact hp
 have HB:Hid (∀w1,Below w.heap.size w w1->Dc w1 l p (aB m p)):=hd (fun w1 hb=>(h.below hb).dS hp);have m9:=h.sU.2.2.2.2.1;have HK:=hd h;have HS:=hd hs;have HC:=hd hc;have HP:=hd hp;obtain ⟨r,hr⟩:=Haa (eZ.uO (aB m p).core (cd l.c p) m.tick p);have ai:=aA w (.cells #[.int .i64 0,.int .i64 0,.int .i64 0] 262);have aH:Below w.heap.size w (w.alloc (.cells #[.int .i64 0,.int .i64 0,.int .i64 0] 262)).drew:=ai.drew;have aJ:=eZ.step_any (aB m p).core (sQ l p).a (cd l.c p) (sQ l p).c m.tick p (w.alloc (.cells #[.int .i64 0,.int .i64 0,.int .i64 0] 262)).drew ((h.below aH).YZ hp) (h.below aH).base.Ey (hc.jmp p hp);have GJ:=eZ.step_two (aB m p).core (cd l.c p) m.tick p;rw [hr.out]at aJ GJ;have em:qH l.c m p=Gh l.c (m.bM p fun x=>{x with core:=r.1}) p r.2.1:=by rw [<-hr.out];rfl
 obtain ⟨M,hM⟩:=Haa (qH l.c m p);rw [hM.out]at em⊢;have sW:Hid (aG l.c (m.bM p fun x=>{x with core:=r.1})):=hd (hs.CE hp (fun _=>rfl) (fun _=>rfl) (fun _=>rfl) (fun _=>rfl));have sM:(m.bM p fun x=>{x with core:=r.1}).tick<=6917529027641081856:=ht;obtain ⟨m1,di⟩:∃x,Hid ((m.bM p fun x=>{x with core:=r.1})=x):=⟨_,rfl⟩
 have HE:Hid (∀w1,Below (w.alloc (.cells #[.int .i64 0,.int .i64 0,.int .i64 0] 262)).drew.heap.size (w.alloc (.cells #[.int .i64 0,.int .i64 0,.int .i64 0] 262)).drew w1->
  Dc w1 l p (aB m p)/\w1.heap[w.heap.size]?=some (.cells #[.int .i64 0,.int .i64 0,.int .i64 0] 262 (0,0))/\l.bq p≠w.heap.size/\Y3 w l U m1 w.heap.size r.2.1 r.2.2.1 r.2.2.2 (eZ.uP (gH w1 (l.bq p) r.1) w.heap.size r.2.1 r.2.2.1 r.2.2.2)):=hd (fun w1 hb=>by
  have aj:Below w.heap.size w w1:=aH.trans (hb.mono aH.size);have nU:w1.heap[w.heap.size]?=some (.cells #[.int .i64 0,.int .i64 0,.int .i64 0] 262 (0,0)):=by
   rw [hb.block _ (by simp [World.drew])];exact aae w _
  have bC:l.bq p≠w.heap.size:=by
   have:=(aab.1 (h.zP hp)).1;omega
  refine ⟨HB.out w1 aj,nU,bC, ?_⟩;have mJ:=h.below aj;obtain ⟨U1,t1,k1⟩:=(mJ.DT hs hp (f:=fun x=>{x with core:=r.1}) (fun _=>rfl) (fun _=>rfl) (fun _=>rfl) (fun _=>rfl) (FT _ _ _) (NV (mJ.zP hp) r.1)).get;rw [di.out]at k1;have Y4:¬U1 w.heap.size:=fun e=>by
   rcases t1.2 _ e with h2|h2
   ·have:=h.lt _ h2;omega
   ·have:=(aab.1 nU).1;omega
  have kX:Mod (fun k=>k=w.heap.size) (gH w1 (l.bq p) r.1) (eZ.uP (gH w1 (l.bq p) r.1) w.heap.size r.2.1 r.2.2.1 r.2.2.2):=dz (dz (dP _ _ _ _) _ _) _ _;have hgw2:(gH w1 (l.bq p) r.1).heap[w.heap.size]?=some (.cells #[.int .i64 0,.int .i64 0,.int .i64 0] 262 (0,0)):=by
   rw [(FT w1 (l.bq p) r.1).block _ (aab.1 nU).1 (fun e=>bC e.symm)];exact nU
  have aT:=eZ.bU.three (w:=gH w1 (l.bq p) r.1) (t:=262) (b:=w.heap.size) ⟨hgw2⟩ r.2.1 r.2.2.1 r.2.2.2
  have k2:Mk (eZ.uP (gH w1 (l.bq p) r.1) w.heap.size r.2.1 r.2.2.1 r.2.2.2) l U1 m1:=k1.mod kX (fun k hk e=>Y4 (by rw [<-e];exact hk)) (fun k hk e=>by
   have:=h.base.mV k hk
   omega)
  refine ⟨U1, ?_,k2,aT.cell 0,aT.cell 1,aT.cell 2,aT.lt,Y4⟩;have tt:=(To.of_bel (U:=U) aj).trans t1
  exact ⟨tt.1.trans kX (fun k e=> .inr (by rw [e];exact aag _)),tt.2⟩)
 rw [di.out]at sW sM;rw [di.out]at em;replace em:=hd em;have jO:=hd (HB.out _ ai);have m9':(w.alloc (.cells #[.int .i64 0,.int .i64 0,.int .i64 0] 262)).cell? ⟨l.bm,9,none⟩=some (.int .i64 m.tick):=((h.below ai).sU).2.2.2.2.1;obtain ⟨c0,c1,c2,c3,c4,c5,c6,c7,c8,c9,lV,lW,lX,j_,kM,fr⟩:=jO.out;obtain ⟨r1,k,t,v⟩:=r;generalize aB m p=x at*
 generalize m.tick=T at*
 unfold eZ.fH eZ.cT eZ.Gn eZ.zT eZ.tK at aJ;try dsimp only at aJ
 try dsimp only at HE
 try dsimp only at em
 unfold gH eZ.uP at HE;try dsimp only at HE
 try dsimp only at GJ
 clear h hs hc hp pg ai aH hr di HB m9 jO;go_enter Tryz.func129,Tryz.ntmps129;go_upto_region 1 with fail;go_cut [5] (fun v5 wy=>Hid (Y3 w l U m1 w.heap.size k t v wy))
 case first=>
  go_region_law (first|(go_simp;(with_reducible refine aJ.mono ?_);rintro e w1 ⟨rfl,b1⟩;clear aJ c0 c1 c2 c3 c4 c5 c6 c7 c8 c9 lV lW lX j_ kM fr;obtain ⟨⟨c0,c1,c2,c3,c4,c5,c6,c7,c8,c9,lV,lW,lX,j_,kM,fr⟩,nU,bC,HI⟩:=HE.out w1 b1;have y0:=aaa w1 _ 0 _ _ _ nU;have y1:=aaa w1 _ 1 _ _ _ nU;have y2:=aaa w1 _ 2 _ _ _ nU;have yf:∀i,w1.frozen? ⟨w.heap.size,i,none⟩=false:=(fun i=>by simp [World.frozen?,nU]);replace HI:=hd HI;clear nU))
  all_goals (
   go_wp2_with fail;go_meet
   case rel=>exact HI)
 case rest=>
  obtain ⟨U1,t1,k1,y0,y1,y2,gK,hgU⟩:=hcut.out;clear hcut aJ c0 c1 c2 c3 c4 c5 c6 c7 c8 c9 lV lW lX j_ kM fr HE m9';obtain ⟨gw,nU⟩:=Haa w.heap.size;rw [nU.out]at y0 y1 y2 gK hgU⊢;clear nU;replace t1:=hd t1;have QB:=hd k1;by_cases e1:k=1
  ·subst e1;have he:=end_m k1 sW.out HC.out HP.out 5;have QW:M=yc l.c m1 p 5:=em.out;clear k1 em GJ;go_wp2_with (go_at_call 133;refine he.mono ?_;rintro e w2 ⟨rfl,ho⟩;clear he);go_end0;exact ⟨rfl,by rw [QW];exact t1.out.out ho⟩
  obtain rfl:k=0:=by
   rcases GJ with h|h
   ·exact h
   ·exact absurd h e1
  have QW:M=m1:=by
   rw [em.out];rfl
  have HO:=hd (t1.out.mk k1);clear k1 em e1 GJ;go_wp2_with fail;go_end0;exact ⟨rfl,by rw [QW];exact HO.out⟩
end
end Go.Proofs.YthopnfbjiifhhaaGreatDoor
