/- Half of two twins, in memory. -/
import Derived.Test.YthopnfbjiifhhaaGreatDoorGXa
namespace Go.Proofs.YthopnfbjiifhhaaGreatDoor
open Go.RowKit
abbrev cK:=Int×Int×Int
def pG(s:cK):List Value:=[.int .i64 s.1,.int .i64 s.2.1,.int .i64 s.2.2]
def bB(l:List cK):List Value:=l.flatMap pG
structure HS where
 m:MS
 T:Int
 O:Int
 due:Int
 rest:List cK
def Zv(c:ak)(g:Loc)(br:Nat)(sa:Option Addr)(n sc:Nat)(due:Int):Array Value:=#[.slice g.la c.labels.length g.lc,.slice g.ta c.table.length g.tc,.int .i64 c.fuel,.int .i64 c.lane,.int .i64 c.aF,.int .i64 c.log,.slice g.pa c.procs.length g.pc,.pointer (some ⟨br,0,none⟩),.slice sa n sc,.int .i64 due]
structure HL where
 bh:Nat
 br:Nat
 l:Lay
 c:ak
 g:Loc
 K:Nat->Prop
def HL.fp(h:HL)(U:Nat->Prop)(k:Nat):Prop:=U k\/k=h.br\/k=h.bh
structure ed(w:World)(h:HL)(U:Nat->Prop)(sa:Option Addr)(sc:Nat)(x:HS):Prop where
 obj:w.heap[h.bh]?=some (.cells (Zv h.c h.g h.br sa x.rest.length sc x.due) 73 (0,0))
 run:dF w h.br h.l U x.m x.T x.O
 cf:fD w h.c h.g
 rd:Rd w sa (bB x.rest)
 ks:x.rest≠[]->∀k,ae sa=some k->h.K k
 le:x.rest.length<=sc
 nb:¬U h.bh
 nr:h.bh≠h.br
 kl:∀k,h.l.K k->h.K k
 kc:∀k,sS h.g k->h.K k
 mV:∀k,h.K k->k<w.heap.size
 kf:∀k,h.fp U k->¬h.K k
def cU(w:World)(h:HL)(U:Nat->Prop)(x:HS)(w':World):Prop:=Mod (h.fp U) w w'/\∃U' sa sc,ed w' h U' sa sc x/\∀k,U' k->U k\/w.heap.size<=k
theorem J3{l:List cK}:l=[]\/l≠[]:=by cases l<;>simp
section
variable{w w' dR:World} {h:HL} {U:Nat->Prop} {sa:Option Addr} {sc:Nat} {x y:HS}
theorem ed.mod{S:Nat->Prop}(k:ed w h U sa sc x)(hm:Mod S w w')(h1:∀b,h.fp U b->¬S b)(h2:∀b,h.K b->¬S b):ed w' h U sa sc x:=by
 have hr:=k.run;have RD:=(aab.1 k.obj).1;refine ⟨(hm.block _ RD (h1 _ (.inr (.inr rfl)))).trans k.obj,⟨(hm.block _ hr.lt (h1 _ (.inr (.inl rfl)))).trans hr.obj,hr.kk.mod hm (fun b hb=>h1 b (.inl hb)) (fun b hb=>h2 b (k.kl b hb)),hr.nu,hr.nk⟩,fD.mod k.cf hm (fun b hb=>h2 b (k.kc b hb)), ?_,k.ks,k.le,k.nb,k.nr,k.kl,k.kc,fun b hb=>aam (k.mV b hb) hm.size,k.kf⟩;rcases J3 (l:=x.rest)with e|e
 ·rw [e];intro j u hj;simp [bB]at hj
 ·exact k.rd.mod (fun b hb _=>h2 b (k.ks e b hb)) hm
theorem ed.below(k:ed w h U sa sc x)(hb:Below w.heap.size w w'):ed w' h U sa sc x:=k.mod (Mod.aS (fun _=>False) hb) (fun _ _ e=>e) (fun _ _ e=>e)
theorem ed.lt(k:ed w h U sa sc x):∀b,h.fp U b->b<w.heap.size:=fun b hb=>by
 rcases hb with e|rfl|rfl
 ·exact k.run.kk.lt b e
 ·exact k.run.lt
 ·exact (aab.1 k.obj).1
theorem cU.refl(k:ed w h U sa sc x):cU w h U x w:=⟨Mod.refl _ _,U,sa,sc,k,fun _ e=> .inl e⟩
theorem cU.trans(o:cU w h U x w')(h2:∀U' sa sc,ed w' h U' sa sc x->cU w' h U' y dR):cU w h U y dR:=by
 obtain ⟨a,U',sa,sc,k,c⟩:=o;obtain ⟨d,U2,RE,RF,e,f⟩:=h2 U' sa sc k;refine ⟨a.trans d (fun b hb=> ?_),U2,RE,RF,e,fun b hb=> ?_⟩
 ·rcases hb with e|e
  ·rcases c b e with e|e
   ·exact .inl (.inl e)
   ·exact .inr e
  ·exact .inl (.inr e)
 ·rcases f b hb with e|e
  ·exact c b e
  ·exact .inr (aai a.size e)
theorem cU.via{U':Nat->Prop}(a:Mod (h.fp U) w w')(c:∀b,U' b->U b\/w.heap.size<=b)(o:cU w' h U' y dR):cU w h U y dR:=by
 obtain ⟨d,U2,RE,RF,e,f⟩:=o;refine ⟨a.trans d (fun b hb=> ?_),U2,RE,RF,e,fun b hb=> ?_⟩
 ·rcases hb with e|e
  ·rcases c b e with e|e
   ·exact .inl (.inl e)
   ·exact .inr e
  ·exact .inl (.inr e)
 ·rcases f b hb with e|e
  ·exact c b e
  ·exact .inr (aai a.size e)
theorem cU.ahead{w0:World}(hb:Below w0.heap.size w0 w)(o:cU w h U x w'):cU w0 h U x w':=by
 obtain ⟨a,U',sa,sc,k,c⟩:=o;refine ⟨(Mod.aS _ hb).trans a (fun b e=> .inl e),U',sa,sc,k,fun b e=> ?_⟩;rcases c b e with e|e
 ·exact .inl e
 ·exact .inr (aai hb.size e)
theorem ed.on(k:ed w h U sa sc x){m':MS}{T' O':Int}(o:bJ w h.br h.l U m' T' O' w'):∃U',ed w' h U' sa sc {x with m:=m',T:=T',O:=O'}/\Mod (h.fp U) w w'/\∀b,U' b->U b\/w.heap.size<=b:=by
 obtain ⟨om,U',r,c⟩:=o
 have hm:Mod (h.fp U) w w':=om.mono (fun b _ e=>by
  rcases e with e|e
  ·exact .inl e
  ·exact .inr (.inl e))
 have RD:=(aab.1 k.obj).1;have hn:¬(U h.bh\/h.bh=h.br):=fun e=>by
  rcases e with e|e
  ·exact k.nb e
  ·exact k.nr e
 have hK:∀b,h.K b->¬(U b\/b=h.br):=fun b hb e=>k.kf b (by
  rcases e with e|e
  ·exact .inl e
  ·exact .inr (.inl e)) hb
 refine ⟨U',⟨(om.block _ RD hn).trans k.obj,r,fD.mod k.cf om (fun b hb=>hK b (k.kc b hb)), ?_,k.ks,k.le,fun e=> ?_,k.nr,k.kl,k.kc,fun b hb=>aam (k.mV b hb) om.size,fun b hb L4=> ?_⟩,hm,c⟩
 ·rcases J3 (l:=x.rest)with e|e
  ·show Rd w' sa (bB x.rest);rw [e];intro j u hj;simp [bB]at hj
  ·exact k.rd.mod (fun b hb _=>hK b (k.ks e b hb)) om
 ·rcases c _ e with e|e
  ·exact k.nb e
  ·omega
 ·rcases hb with e|e|e
  ·rcases c b e with e|e
   ·exact k.kf b (.inl e) L4
   ·have:=k.mV b L4;omega
  ·exact k.kf b (.inr (.inl e)) L4
  ·exact k.kf b (.inr (.inr e)) L4
theorem ed.OV(k:ed w h U sa sc x){m':MS}{T' O':Int}(o:bJ w h.br h.l U m' T' O' w'):cU w h U {x with m:=m',T:=T',O:=O'} w':=by
 obtain ⟨U',a,b,c⟩:=k.on o;exact ⟨b,U',sa,sc,a,c⟩
theorem ed.cell(k:ed w h U sa sc x)(i:Nat):w.cell? ⟨h.bh,i,none⟩=(Zv h.c h.g h.br sa x.rest.length sc x.due)[i]?:=aaa _ _ _ _ _ _ k.obj
theorem ed.fr(k:ed w h U sa sc x)(i:Nat):w.frozen? ⟨h.bh,i,none⟩=false:=by simp [World.frozen?,k.obj]
theorem ed.VG(k:ed w h U sa sc x)(d:Int):cU w h U {x with due:=d} (w.setCell ⟨h.bh,9,none⟩ (.int .i64 d)):=by
 have hm:=dP w h.bh 9 (.int .i64 d);have hr:=k.run;have hK:∀b,h.K b->b≠h.bh:=fun b hb e=>k.kf b (.inr (.inr e)) hb
 refine ⟨hm.mono (fun b _ e=> .inr (.inr e)),U,sa,sc,⟨?_,⟨(hm.block _ hr.lt (fun e=>k.nr e.symm)).trans hr.obj,hr.kk.mod hm (fun b hb e=>k.nb (by rw [<-e];exact hb)) (fun b hb e=>hK b (k.kl b hb) e),hr.nu,hr.nk⟩,fD.mod k.cf hm (fun b hb=>hK b (k.kc b hb)), ?_,k.ks,k.le,k.nb,k.nr,k.kl,k.kc,fun b hb=>aam (k.mV b hb) hm.size,k.kf⟩,fun b hb=> .inl hb⟩
 ·rw [aU k.obj];rfl
 ·rcases J3 (l:=x.rest)with e|e
  ·show Rd _ sa (bB x.rest);rw [e];intro j u hj;simp [bB]at hj
  ·exact k.rd.mod (fun b hb _=>hK b (k.ks e b hb)) hm
theorem ed.setRest(k:ed w h U sa sc x)(r:List cK)(Fa:Option Addr)(L5:Nat)(j9:Rd w Fa (bB r))(hk:r≠[]->∀b,ae Fa=some b->h.K b)(hl:r.length<=L5):cU w h U {x with rest:=r} (w.setCell ⟨h.bh,8,none⟩ (.slice Fa r.length L5)):=by
 have hm:=dP w h.bh 8 (.slice Fa r.length L5);have hr:=k.run;have hK:∀b,h.K b->b≠h.bh:=fun b hb e=>k.kf b (.inr (.inr e)) hb
 refine ⟨hm.mono (fun b _ e=> .inr (.inr e)),U,Fa,L5,⟨?_,⟨(hm.block _ hr.lt (fun e=>k.nr e.symm)).trans hr.obj,hr.kk.mod hm (fun b hb e=>k.nb (by rw [<-e];exact hb)) (fun b hb e=>hK b (k.kl b hb) e),hr.nu,hr.nk⟩,fD.mod k.cf hm (fun b hb=>hK b (k.kc b hb)), ?_,hk,hl,k.nb,k.nr,k.kl,k.kc,fun b hb=>aam (k.mV b hb) hm.size,k.kf⟩,fun b hb=> .inl hb⟩
 ·rw [aU k.obj];rfl
 ·rcases J3 (l:=r)with e|e
  ·show Rd _ Fa (bB r);rw [e];intro j u hj;simp [bB]at hj
  ·exact j9.mod (fun b hb _=>hK b (hk e b hb)) hm
theorem cU.fin{W:World}{b2:Nat}(k:ed w h U sa sc x)(hb:Below w.heap.size w w')(o:cU w' h U y W)(h2:w.heap.size<=b2)(h3:b2<w'.heap.size)(hm:Mod (fun b=>b=b2) W dR):cU w h U y dR:=by
 obtain ⟨a,U1,s1,c1,k1,c⟩:=cU.ahead hb o;obtain ⟨om,V,s2,c2,o1,o2⟩:=o;have af:=k.lt;have hv:∀b,h.fp V b->¬b=b2:=fun b aI e=>by
  have eH:b<w.heap.size\/w'.heap.size<=b:=by
   rcases aI with e2|e2
   ·rcases o2 b e2 with e3|e3
    ·exact .inl (af b (.inl e3))
    ·exact .inr e3
   ·exact .inl (af b (.inr e2))
  omega
 have hK:∀b,h.K b->¬b=b2:=fun b aI e=>by
  have:=k.mV b aI;omega
 refine ⟨a.trans hm (fun b e=> .inr (by omega)),V,s2,c2,o1.mod hm hv hK,fun b aI=> ?_⟩;rcases o2 b aI with e|e
 ·exact .inl e
 ·exact .inr (aai hb.size e)
end
end Go.Proofs.YthopnfbjiifhhaaGreatDoor
