/- Configs: which may be, and as bytes, over whole numbers. -/
import Derived.Test.YthopnfbjiifhhaaGreatDoorGXLW1
import Derived.Deep.RegionHeld3
import Derived.Deep.CondSized
import Derived.Deep.DeepCutAuto
import Derived.Deep.CutBlock
set_option maxHeartbeats 4000000
set_option maxRecDepth 100000
namespace Go.Proofs.YthopnfbjiifhhaaGreatDoor
open Go.RowKit Go.Proofs.Tryz
structure Pr where
 part:Int
 code:List Ins
instance:Inhabited Pr:=⟨⟨0,[]⟩⟩
structure ak where
 labels:List Nat
 table:List Int
 fuel:Int
 lane:Int
 aF:Int
 log:Int
 procs:List Pr
def kP(l:List Nat):Nat->Nat->Nat×Nat
 |0,_=>(0,0)
 |m+1,i=>if l.getD i 0=l.getD (i-1) 0 then(8,i)else if l.getD i 0<l.getD (i-1) 0 then(7,i)else kP l m (i+1)
def fN(l:List Nat):Nat×Nat:=if l.length=0 then(1,0)else if 8<l.length then(3,8)else kP l (l.length-1) 1
def tP(P x:Int):Bool:=decide (0<=x)&&decide (x<P)
def oD(l:List Int)(P:Int):Int:=if l.length=0 then 1 else if 64<l.length then 3 else if l.all (tP P)then 0 else 2
def bf(lo hi v:Int):Int:=if lo<=v/\v<=hi then 0 else 2
def dQ(most n:Int):Int:=if n=0 then 1 else if most<n then 3 else 0
def ji(P K:Int)(p:Pr):Int:=if bf 0 (P-1) p.part≠0 then 2 else(gB p.code K).1
def qR(P K:Int):List Pr->Int->Int×Int
 |[],_=>(0,0)
 |p::r,i=>if ji P K p≠0 then(ji P K p,7+i)else qR P K r (i+1)
def jt(c:ak):Int×Int:=
 if(fN c.labels).1≠0 then((fN c.labels).1,0)else
 if oD c.table c.labels.length≠0 then(oD c.table c.labels.length,1)else
 if bf 1 256 c.fuel≠0 then(2,2)else
 if bf 1 64 c.lane≠0 then(2,3)else
 if bf 0 8 c.aF≠0 then(2,4)else
 if bf 0 4096 c.log≠0 then(2,5)else
 if dQ 32 c.procs.length≠0 then(dQ 32 c.procs.length,6)else
 qR c.labels.length c.aF c.procs 0
def cM(k u:Nat):List Nat:=(List.range k).map fun j=>u/2^(8*j)% 256
def lL:List Nat:=[70,66,67,70,1]
def yo(p:Pr):List Nat:=cM 1 (u64 p.part)++(cM 2 p.code.length++tN p.code)
def nE(c:ak):List Nat:=
 lL++((cM 1 c.labels.length++c.labels.flatMap (cM 8))++((cM 1 c.table.length++c.table.flatMap fun x=>cM 1 (u64 x))++
 (cM 2 (u64 c.fuel)++(cM 1 (u64 c.lane)++(cM 1 (u64 c.aF)++(cM 2 (u64 c.log)++(cM 1 c.procs.length++c.procs.flatMap yo)))))))
inductive sx(α:Type)where
 |ok (a:α) (p:Nat):sx α
 |er (e at_:Int):sx α
def fO(α:Type):Type:=List Nat->Nat->sx α
def vZ{α:Type}(a:α):fO α:=fun _ p=> .ok a p
def bQ{α β:Type}(x:fO α)(f:α->fO β):fO β:=fun bs p=>match x bs p with
 | .ok a q=>f a bs q
 | .er e a=> .er e a
def il(k:Nat)(f:Nat->Int):fO Nat:=fun bs p=>
 if bs.length<p+k then .er 5 bs.length else if f (gD bs p k)≠0 then .er (f (gD bs p k)) p else .ok (gD bs p k) (p+k)
def iQ{α:Type}(f:List α->fO α):Nat->List α->fO (List α)
 |0,acc=>vZ acc
 |m+1,acc=>bQ (f acc) fun a=>iQ f m (acc++[a])
def KL:fO Unit:=bQ (iQ (fun acc=>il 1 fun n=>if n=lL.getD acc.length 0 then 0 else 4) 5 []) fun _=>vZ ()
def Ac(acc:List Nat)(v:Nat):Int:=if acc.length=0 then 0 else if v=acc.getD (acc.length-1) 0 then 8 else if v<acc.getD (acc.length-1) 0 then 7 else 0
def Gy:fO (List Nat):=bQ (il 1 fun n=>dQ 8 n) fun n=>iQ (fun acc=>il 8 (Ac acc)) n []
def GX(P:Int):fO Nat:=il 1 fun n=>bf 0 (P-1) n
def Gz(P:Int):fO (List Nat):=bQ (il 1 fun n=>dQ 64 n) fun n=>iQ (fun _=>GX P) n []
def GA(n k:Int):fO Ins:=fun bs p=>
 if bs.length<p+12 then .er 5 bs.length else if(wrong (fc bs p) n k).1≠0 then .er (wrong (fc bs p) n k).1 (p+(wrong (fc bs p) n k).2)else .ok (fc bs p) (p+12)
def wB(n:Nat):Int:=if 256<n then 3 else 0
def GD(k:Int):fO (List Ins):=bQ (il 2 wB) fun n=>iQ (fun _=>GA n k) n []
def wN(P K:Int):fO Pr:=bQ (GX P) fun part=>bQ (GD K) fun l=>vZ ⟨part,l⟩
def OZ(P K:Int):fO (List Pr):=bQ (il 1 fun n=>dQ 32 n) fun n=>iQ (fun _=>wN P K) n []
def VP:fO Nat:=il 2 fun n=>bf 1 256 n
def VQ:fO Nat:=il 1 fun n=>bf 1 64 n
def Vm:fO Nat:=il 1 fun n=>bf 0 8 n
def WK:fO Nat:=il 2 fun n=>bf 0 4096 n
def O5:fO ak:=bQ KL fun _=>bQ Gy fun labels=>bQ (Gz labels.length) fun table=>bQ VP fun fuel=>bQ VQ fun lane=>bQ Vm fun aF=>bQ WK fun log=>
 bQ (OZ labels.length aF) fun procs=>vZ ⟨labels,table.map fun x:Nat=>(x:Int),fuel,lane,aF,log,procs⟩
def Kk(bs:List Nat):sx ak:=if 1048576<bs.length then .er 22 1048576 else bQ O5 (fun c bs p=>if p<bs.length then .er 6 p else .ok c p) bs 0
def nN:ak:=⟨[],[],0,0,0,0,[]⟩
def qI(bs:List Nat):ak×Int×Int:=match Kk bs with
 | .ok c _=>(c,0,0)
 | .er e a=>(nN,e,a)
def rZ(bs:List Nat):Prop:=∀i,bs.getD i 0<256
theorem BL(k u:Nat):(cM k u).length=k:=by simp [cM]
def VL{α:Type}(V:List α->α->Prop):List α->List α->Prop
 |_,[]=>True
 |acc,a::r=>V acc a/\VL V (acc++[a]) r
def codV(K:Int)(l:List Ins):Prop:=(wB l.length=0/\l.length<2^(8*2))/\VL (fun _ x=>(wrong x l.length K).1=0/\Fit x) [] l
def WL(P:Int)(n:Nat):Prop:=bf 0 (P-1) n=0/\n<2^(8*1)
def prVq(P K:Int)(p:Pr):Prop:=WL P p.part.toNat/\0<=p.part/\codV K p.code
def labV(l:List Nat):Prop:=(dQ 8 l.length=0/\l.length<2^(8*1))/\VL (fun acc n=>Ac acc n=0/\n<2^(8*8)) [] l
def tabV(P:Int)(l:List Nat):Prop:=(dQ 64 l.length=0/\l.length<2^(8*1))/\VL (fun _ n=>WL P n) [] l
def prsV(P K:Int)(l:List Pr):Prop:=(dQ 32 l.length=0/\l.length<2^(8*1))/\VL (fun _ p=>prVq P K p) [] l
def iT(c:ak):List Nat:=c.table.map Int.toNat
def iR(labels table:List Nat)(fuel lane aF log:Nat)(procs:List Pr):ak:=⟨labels,table.map fun x:Nat=>(x:Int),fuel,lane,aF,log,procs⟩
def W8(labels table:List Nat)(fuel lane aF log:Nat)(c:ak):Prop:=prsV labels.length aF c.procs/\c=iR labels table fuel lane aF log c.procs
def W7(labels table:List Nat)(fuel lane aF:Nat)(c:ak):Prop:=(bf 0 4096 c.log.toNat=0/\c.log.toNat<2^(8*2))/\W8 labels table fuel lane aF c.log.toNat c
def W6(labels table:List Nat)(fuel lane:Nat)(c:ak):Prop:=(bf 0 8 c.aF.toNat=0/\c.aF.toNat<2^(8*1))/\W7 labels table fuel lane c.aF.toNat c
def W5(labels table:List Nat)(fuel:Nat)(c:ak):Prop:=(bf 1 64 c.lane.toNat=0/\c.lane.toNat<2^(8*1))/\W6 labels table fuel c.lane.toNat c
def W4(labels table:List Nat)(c:ak):Prop:=(bf 1 256 c.fuel.toNat=0/\c.fuel.toNat<2^(8*2))/\W5 labels table c.fuel.toNat c
def W3(labels:List Nat)(c:ak):Prop:=tabV labels.length (iT c)/\W4 labels (iT c) c
def W2(c:ak):Prop:=labV c.labels/\W3 c.labels c
def P8(labels table:List Nat)(fuel lane aF log:Nat):fO ak:=bQ (OZ labels.length aF) fun procs=>vZ (iR labels table fuel lane aF log procs)
def P7(labels table:List Nat)(fuel lane aF:Nat):fO ak:=bQ WK fun log=>P8 labels table fuel lane aF log
def P6(labels table:List Nat)(fuel lane:Nat):fO ak:=bQ Vm fun aF=>P7 labels table fuel lane aF
def P5(labels table:List Nat)(fuel:Nat):fO ak:=bQ VQ fun lane=>P6 labels table fuel lane
def P4(labels table:List Nat):fO ak:=bQ VP fun fuel=>P5 labels table fuel
def P3(labels:List Nat):fO ak:=bQ (Gz labels.length) fun table=>P4 labels table
def P2:fO ak:=bQ Gy fun labels=>P3 labels
theorem cfgP_eq:O5=bQ KL fun _=>P2:=rfl
def E8(c:ak):List Nat:=(cM 1 c.procs.length++c.procs.flatMap yo)++[]
def E7(c:ak):List Nat:=cM 2 c.log.toNat++E8 c
def E6(c:ak):List Nat:=cM 1 c.aF.toNat++E7 c
def E5(c:ak):List Nat:=cM 1 c.lane.toNat++E6 c
def E4(c:ak):List Nat:=cM 2 c.fuel.toNat++E5 c
def E3(c:ak):List Nat:=(cM 1 (iT c).length++(iT c).flatMap (cM 1))++E4 c
def E2(c:ak):List Nat:=(cM 1 c.labels.length++c.labels.flatMap (cM 8))++E3 c
def E1(c:ak):List Nat:=lL++E2 c
theorem JG(P K:Int):∀(l:List Pr) (i:Int),(qR P K l i).1=0↔∀p∈l,ji P K p=0
 |[],_=>by simp [qR]
 |p::r,i=>by
  unfold qR;by_cases h:ji P K p=0
  ·rw [aaf (by simp [h]),JG P K r (i+1)];simp [h]
  ·rw [aah h];simp [h]
theorem M_(P K:Int):∀(l:List Pr) (i:Int),(qR P K l i).1=0->qR P K l i=(0,0)
 |[],_,_=>rfl
 |p::r,i,h=>by
  unfold qR at h⊢;by_cases h1:ji P K p=0
  ·rw [aaf (by simp [h1])]at h⊢;exact M_ P K r (i+1) h
  ·rw [aah h1]at h;exact absurd h h1
structure Good(c:ak):Prop where
 pY:∀x∈c.labels,x<18446744073709551616
 fit:∀p∈c.procs,∀x∈p.code,Fit x
theorem BT{l:List Nat}(h:(fN l).1=0):1<=l.length/\l.length<=8:=by
 unfold fN at h;split at h
 ·simp at h
 ·split at h
  ·simp at h
  ·omega
theorem BM(c:ak):(jt c).1=0↔(fN c.labels).1=0/\oD c.table c.labels.length=0/\bf 1 256 c.fuel=0/\bf 1 64 c.lane=0/\bf 0 8 c.aF=0/\bf 0 4096 c.log=0/\dQ 32 c.procs.length=0/\∀p∈c.procs,ji c.labels.length c.aF p=0:=by
 unfold jt;by_cases h0:(fN c.labels).1=0
 ·rw [aaf (by simp [h0])];by_cases h1:oD c.table c.labels.length=0
  ·rw [aaf (by simp [h1])];by_cases h2:bf 1 256 c.fuel=0
   ·rw [aaf (by simp [h2])];by_cases h3:bf 1 64 c.lane=0
    ·rw [aaf (by simp [h3])];by_cases h4:bf 0 8 c.aF=0
     ·rw [aaf (by simp [h4])];by_cases h5:bf 0 4096 c.log=0
      ·rw [aaf (by simp [h5])];by_cases h6:dQ 32 c.procs.length=0
       ·rw [aaf (by simp [h6]),JG];simp [h0,h1,h2,h3,h4,h5,h6]
       ·rw [aah h6];simp [h6]
      ·rw [aah h5];simp [h5]
     ·rw [aah h4];simp [h4]
    ·rw [aah h3];simp [h3]
   ·rw [aah h2];simp [h2]
  ·rw [aah h1];simp [h1]
 ·rw [aah (by simpa using h0)];simp [h0]
theorem mayC_zero(c:ak)(h:(jt c).1=0):jt c=(0,0):=by
 obtain ⟨h0,h1,h2,h3,h4,h5,h6,h7⟩:=(BM c).1 h;unfold jt;rw [aaf (by simp [h0]),aaf (by simp [h1]),aaf (by simp [h2]),aaf (by simp [h3]),aaf (by simp [h4]),aaf (by simp [h5]),aaf (by simp [h6])];exact M_ _ _ _ _ ((JG _ _ _ _).2 h7)
theorem DW{lo hi x:Int}(h:bf lo hi x=0):lo<=x/\x<=hi:=by
 unfold bf at h;split at h
 ·assumption
 ·simp at h
theorem Js{α:Type}(e:α->List Nat)(m:Nat):∀(l:List α),(∀a∈l,(e a).length<=m)->(l.flatMap e).length<=l.length*m
 |[],_=>by simp
 |a::r,h=>by
  have:=Js e m r (fun x hx=>h x (aaw _ hx));have h1:=h a aaA;rw [List.flatMap_cons,aal,List.length_cons,abq];omega
theorem JH{l:List Int}{P:Int}(h:oD l P=0):1<=l.length/\l.length<=64:=by
 unfold oD at h;split at h
 ·simp at h
 ·split at h
  ·simp at h
  ·omega
theorem zK{m n:Int}(h:dQ m n=0):n≠0/\n<=m:=by
 unfold dQ at h;split at h
 ·simp at h
 ·split at h
  ·simp at h
  ·omega
theorem prE_len{P K:Int}{p:Pr}(h:ji P K p=0):p.code.length<=256:=by
 unfold ji at h;split at h
 ·simp at h
 ·unfold gB at h;split at h
  ·simp at h
  ·split at h
   ·simp at h
   ·omega
theorem enc_len(c:ak)(h:(jt c).1=0):(nE c).length<=98542:=by
 obtain ⟨h0,h1,h2,h3,h4,h5,h6,h7⟩:=(BM c).1 h;have l1:=BT h0;have l2:=JH h1;have l3:=zK h6;have f1:=Js (cM 8) 8 c.labels (fun x _=>by rw [BL];omega);have f2:=Js (fun x=>cM 1 (u64 x)) 1 c.table (fun x _=>by rw [BL];omega)
 have f3:=Js yo 3075 c.procs (fun p hp=>by
  have:=prE_len (h7 p hp);simp only [yo,List.length_append,BL,TY]
  omega)
 simp only [nE,List.length_append,BL,lL,List.length_cons,List.length_nil];omega
structure St where
 fr:Nat
 nx:Nat
 e:Int
 at_:Int
def KM(a:Option Addr)(n cap:Nat)(s:St):Array Value:=#[.slice a n cap,.int .i64 s.fr,.int .i64 s.nx,.int .i64 s.e,.int .i64 s.at_]
structure dW(w:World)(r:Nat)(a:Option Addr)(cap:Nat)(bs:List Nat)(s:St):Prop where
 obj:w.heap[r]?=some (.cells (KM a bs.length cap s) 131 (0,0))
 rd:Rd w a (eA bs)
 ne:bs.length≠0->∀k,ae a=some k->k≠r
 byte:rZ bs
 le:bs.length<=1048576
 room:bs.length<=cap
 nx:s.nx<=bs.length
 fr:s.fr<=bs.length
def az(bs:List Nat)(k:Nat)(s:St):Nat×St:=
 if s.e≠0 then(0,s)else if bs.length<s.nx+k then(0,{s with e:=5,at_:=bs.length})else(gD bs s.nx k,{s with fr:=s.nx,nx:=s.nx+k})
def eB(s:St)(e a:Int):St:=if s.e=0/\e≠0 then{s with e:=e,at_:=a}else s
def aN(w:World)(r:Nat)(a:Option Addr)(cap:Nat)(bs:List Nat)(s':St)(w':World):Prop:=dW w' r a cap bs s'/\Mod (fun k=>k=r) w w'
theorem rd_mod{w w':World}{S:Nat->Prop}{a:Option Addr}{bs:List Nat}(h:Rd w a (eA bs))(hb:bs.length≠0->∀k,ae a=some k->¬S k)(hm:Mod S w w'):Rd w' a (eA bs):=fun j u hj=>by
 obtain ⟨b,o,rfl,hc⟩:=h j u hj;have hl:bs.length≠0:=by
  intro e;rw [aas (by rw [BD];omega)]at hj
  cases hj
 exact ⟨b,o,rfl,by rw [hm.cell (p:=⟨b,o+j,none⟩) (aaj w _ hc) (hb hl b rfl)];exact hc⟩
section
variable{w w':World} {r:Nat} {a:Option Addr} {cap:Nat} {bs:List Nat} {s:St}
theorem dW.lt(h:dW w r a cap bs s):r<w.heap.size:=(aab.1 h.obj).1
theorem dW.cell(h:dW w r a cap bs s)(i:Nat):w.cell? ⟨r,i,none⟩=(KM a bs.length cap s)[i]?:=aaa _ _ _ _ _ _ h.obj
theorem dW.free(h:dW w r a cap bs s)(i:Nat):w.frozen? ⟨r,i,none⟩=false:=by simp [World.frozen?,h.obj]
theorem dW.cells(h:dW w r a cap bs s):w.cell? ⟨r,0,none⟩=some (.slice a bs.length cap)/\w.cell? ⟨r,1,none⟩=some (.int .i64 s.fr)/\w.cell? ⟨r,2,none⟩=some (.int .i64 s.nx)/\w.cell? ⟨r,3,none⟩=some (.int .i64 s.e)/\w.cell? ⟨r,4,none⟩=some (.int .i64 s.at_):=
 ⟨h.cell 0,h.cell 1,h.cell 2,h.cell 3,h.cell 4⟩
theorem dW.below(h:dW w r a cap bs s)(hb:Below w.heap.size w w'):dW w' r a cap bs s:=
 ⟨by rw [hb.block r h.lt];exact h.obj,h.rd.below hb,h.ne,h.byte,h.le,h.room,h.nx,h.fr⟩
theorem dW.put(h:dW w r a cap bs s)(i:Nat)(v:Value){s':St}(he:(KM a bs.length cap s).setIfInBounds i v=KM a bs.length cap s')(hn:s'.nx<=bs.length)(hf:s'.fr<=bs.length):dW (w.setCell ⟨r,i,none⟩ v) r a cap bs s':=
 ⟨by rw [aax w r i _ _ v h.obj,he],rd_mod h.rd (fun hz k hk e=>h.ne hz k hk e) ((Mod.refl (fun k=>k=r) w).setCell (.inl rfl) v),h.ne,h.byte,h.le,h.room,hn,hf⟩
theorem dW.at(h:dW w r a cap bs s)(i:Nat)(hi:i<bs.length):∃b o,a=some ⟨b,o,none⟩/\w.cell? ⟨b,o+i,none⟩=some (.int .u8 ((bs.getD i 0:Nat):Int)):=
 h.rd i _ (by simp [eA,List.getD_eq_getElem?_getD,List.getElem?_eq_getElem hi])
theorem aN.refl(h:dW w r a cap bs s):aN w r a cap bs s w:=⟨h,Mod.refl _ _⟩
theorem aN.trans{w1 w2:World}{s1 s2:St}(h:aN w r a cap bs s1 w1)(k:aN w1 r a cap bs s2 w2):aN w r a cap bs s2 w2:=⟨k.1,h.2.trans k.2 (fun _ h=> .inl h)⟩
theorem aN.after{w1 w2:World}{s1:St}(h:aN w r a cap bs s1 w1)(hb:Below w1.heap.size w1 w2):aN w r a cap bs s1 w2:=⟨h.1.below hb,h.2.after hb⟩
theorem ck(w:World)(n:Nat):Below w.heap.size w (w.drewN n):=⟨rfl,rfl,rfl,aag _,fun _ _=>rfl⟩
end
theorem vU(v lo hi:Int)(w:World):
 Calls prog 40 #[.int .i64 v,.int .i64 lo,.int .i64 hi] w fun e w'=>e=.returned (.int .i64 (bf lo hi v))/\w'=w:=by
 obtain ⟨E,hE⟩:=Haa (bf lo hi v);rw [hE.out];by_cases h1:v<lo
 ·obtain rfl:E=2:=by rw [<-hE.out,bf,aaf (by omega)]
  go_enter func40,ntmps40
  go_wp2
  go_ret;exact ⟨rfl,rfl⟩
 ·have d1:decide (v<lo)=false:=by simpa using h1
  by_cases h2:hi<v
  ·obtain rfl:E=2:=by rw [<-hE.out,bf,aaf (by omega)]
   go_enter func40,ntmps40
   go_wp2
   go_ret;exact ⟨rfl,rfl⟩
  ·have d2:decide (hi<v)=false:=by simpa using h2
   obtain rfl:E=0:=by rw [<-hE.out,bf,aah (by omega)]
   go_enter func40,ntmps40
   go_wp2
   go_ret;exact ⟨rfl,rfl⟩
theorem T6(n most:Int)(w:World):
 Calls prog 41 #[.int .i64 n,.int .i64 most] w fun e w'=>e=.returned (.int .i64 (dQ most n))/\w'=w:=by
 obtain ⟨E,hE⟩:=Haa (dQ most n);rw [hE.out];by_cases h1:n=0
 ·obtain rfl:E=1:=by rw [<-hE.out,dQ,aah h1]
  subst h1;go_enter func41,ntmps41
  go_wp2
  go_ret;exact ⟨rfl,rfl⟩
 ·have d1:(n==0)=false:=by simpa using h1
  by_cases h2:most<n
  ·obtain rfl:E=3:=by rw [<-hE.out,dQ,aaf h1,aah h2]
   go_enter func41,ntmps41
   go_wp2
   go_ret;exact ⟨rfl,rfl⟩
  ·have d2:decide (most<n)=false:=by simpa using h2
   obtain rfl:E=0:=by rw [<-hE.out,dQ,aaf h1,aaf h2]
   go_enter func41,ntmps41
   go_wp2
   go_ret;exact ⟨rfl,rfl⟩
section
variable{w:World} {r:Nat} {a:Option Addr} {cap:Nat} {bs:List Nat} {s:St}
theorem i_(h:dW w r a cap bs s)(b:Bool)(hb:b= !(s.e==0)):
 Calls prog 80 #[.pointer (some ⟨r,0,none⟩)] w fun e w'=>e=.returned (.bool b)/\w'=w:=by
 have k3:=h.cells.2.2.2.1;clear h;have HB:=hd hb;clear hb;go_enter func80,ntmps80
 go_wp2
 go_ret;exact ⟨DM (by rw [HB.out];rfl),rfl⟩
theorem tC(h:dW w r a cap bs s)(x y:Int):
 Calls prog 112 #[.pointer (some ⟨r,0,none⟩),.int .i64 x,.int .i64 y] w fun e w'=>e=.returned (.tuple #[])/\aN w r a cap bs (eB s x y) w':=by
 by_cases h0:s.e=0
 ·have hf:=i_ h false (by simp [h0]);by_cases h1:x=0
  ·have HR:Hid (aN w r a cap bs (eB s x y) w):=hd (by rw [eB,aaf (by simp [h1])];exact aN.refl h);subst h1;clear h h0;go_enter func112,ntmps112;go_wp2_with (go_at_call 80;refine hf.mono ?_;rintro e w1 ⟨rfl,rfl⟩);refine bodyPost_end (abA rfl _ _ _) rfl ?_;exact ⟨rfl,HR.out⟩
  ·have d1:(x==0)=false:=by simpa using h1
   have HR:Hid (aN w r a cap bs (eB s x y) ((w.setCell ⟨r,3,none⟩ (.int .i64 x)).setCell ⟨r,4,none⟩ (.int .i64 y))):=hd (by
    rw [eB,aah ⟨h0,h1⟩]
    exact ⟨(h.put 3 _ (s':={s with e:=x}) rfl h.nx h.fr).put 4 _ (s':={s with e:=x,at_:=y}) rfl h.nx h.fr,((Mod.refl (fun k=>k=r) w).setCell (.inl rfl) _).setCell (.inl rfl) _⟩)
   have k3:=h.cells.2.2.2.1;have k4:=h.cells.2.2.2.2;have f3:=h.free 3;have f4:=h.free 4;clear h h0;go_enter func112,ntmps112;go_wp2_with (go_at_call 80;refine hf.mono ?_;rintro e w1 ⟨rfl,rfl⟩);refine bodyPost_end (abA rfl _ _ _) rfl ?_;exact ⟨rfl,HR.out⟩
 ·have hf:=i_ h true (by simp [h0]);have HR:Hid (aN w r a cap bs (eB s x y) w):=hd (by rw [eB,aaf (by simp [h0])];exact aN.refl h);clear h h0;go_enter func112,ntmps112;go_wp2_with (go_at_call 80;refine hf.mono ?_;rintro e w1 ⟨rfl,rfl⟩);refine bodyPost_end (abA rfl _ _ _) rfl ?_;exact ⟨rfl,HR.out⟩
end
section
variable{w:World} {r:Nat} {a:Option Addr} {cap:Nat} {bs:List Nat} {s:St}
theorem number_ok(h:dW w r a cap bs s)(k:Nat)(hk:1<=k/\k<=8)(h0:s.e=0)(hl:s.nx+k<=bs.length):
 Calls prog 113 #[.pointer (some ⟨r,0,none⟩),.int .i64 k] w fun e w'=>e=.returned (.int .u64 (gD bs s.nx k:Nat))/\aN w r a cap bs {s with fr:=s.nx,nx:=s.nx+k} w':=by
 have hf:=i_ h false (by simp [h0]);obtain ⟨b,o,rfl,-⟩:=h.at s.nx (by omega)
 have HC:Hid (∀i,i<bs.length->w.cell? ⟨b,o+i,none⟩=some (.int .u8 ((bs.getD i 0:Nat):Int))):=hd (fun i hi=>by
  obtain ⟨b',o',e,hc⟩:=h.at i hi
  cases e
  exact hc)
 have HB:Hid (rZ bs):=hd h.byte;have k0:=h.cells.1;have k1:=h.cells.2.1;have k2:=h.cells.2.2.1;have f1:=h.free 1;have f2:=h.free 2;have HR:Hid (∀W:World,Below w.heap.size w W->aN w r (some ⟨b,o,none⟩) cap bs {s with fr:=s.nx,nx:=s.nx+k} ((W.setCell ⟨r,1,none⟩ (.int .i64 s.nx)).setCell ⟨r,2,none⟩ (.int .i64 (s.nx+k:Nat)))):=hd fun W hW=>by
  have h':=h.below hW;exact ⟨(h'.put 1 _ (s':={s with fr:=s.nx}) rfl h.nx h.nx).put 2 _ (s':={s with fr:=s.nx,nx:=s.nx+k}) rfl hl h.nx,(((Mod.aS (fun k=>k=r) hW)).setCell (.inl rfl) _).setCell (.inl rfl) _⟩
 have hle:=h.le;have hS:Hid (∀j,gD bs s.nx (j+1)=gD bs s.nx j+bs.getD (s.nx+j) 0*2^(8*j)):=hd fun j=>rfl
 have hL:Hid (∀j,gD bs s.nx j<2^(8*j)):=hd (BS bs s.nx h.byte);have hz:Hid (gD bs s.nx 0=0):=hd rfl;clear h h0;obtain ⟨fr,nx,e,at_⟩:=s;simp only at*
 obtain ⟨nk,Aw⟩:∃nk:Nat,nx+k=nk:=⟨_,rfl⟩;have enk:(nx:Int)+(k:Int)=(nk:Int):=by omega
 rw [Aw]at HR hl;have HN:=hd Aw;clear Aw;generalize gD bs nx=S at*
 have d1:decide ((bs.length:Int)-(nx:Int)<(k:Int))=false:=by simp;omega
 go_enter func113,ntmps113;go_upto_region 3 with(go_at_call 80;refine hf.mono ?_;rintro e w1 ⟨rfl,rfl⟩);go_quiet (fail)
 go_upto_region 7 with fail;go_wp2_with fail;go_loopg [5,6,29,30,31,32,33,34,35,36,37,38,39,40,41,42,43,44,45,46,47,48,49,50] k (fun g v5 _ v29 _ _ _ _ _ _ _ _ _ _ _ _ _ _ _ _ _ _ _ _ _ wr=>∃j n:Nat,j+g=k/\v29=.int .i64 (j:Int)/\v5=.int .u64 (S j:Nat)/\wr=w1.drewN n)
 case atStart=>exact ⟨0,nq,by omega,by go_num,by rw [hz.out];rfl,rfl⟩
 case round=>
  obtain ⟨j,n,ug,rfl,rfl,rfl⟩:=hrel;by_cases h0:gk=0
  ·subst h0;have ej:j=k:=by omega
   subst ej;clear ug;have k0':(w1.drewN n).cell? ⟨r,2,none⟩=some (.int .i64 nx):=k2;go_wp2_with fail;go_region;go_wp2_with fail;go_ret;refine ⟨rfl, ?_⟩;rw [HN.out];exact HR.out _ (ck w1 (n+1))
  ·have af:j<k:=by omega
   have hx:=HC.out (nx+j) (by have:=HN.out;omega);have GV:=or_val (hL.out j) (HB.out (nx+j)) (by omega) (hS.out j);have hy:=HB.out (nx+j);generalize bs.getD (nx+j) 0=y at*
   obtain ⟨m,hm⟩:∃m,nx+j=m:=⟨_,rfl⟩;have em:(nx:Int)+(j:Int)=(m:Int):=by omega
   have ub:(m:Int)<(bs.length:Int):=by have:=HN.out;omega
   rw [hm]at hx;clear hm;obtain ⟨T,hT⟩:=Haa (S (j+1));rw [hT.out]at GV;go_upto_region 10 with fail;go_quiet (fail)
   go_wp2_with fail;go_roundg (gk-1)
   case rel=>exact ⟨j+1,_,by omega,by go_num,by rw [hT.out],rfl⟩
   case measure=>omega
theorem number_no(h:dW w r a cap bs s)(k:Nat)(h0:s.e≠0):
 Calls prog 113 #[.pointer (some ⟨r,0,none⟩),.int .i64 k] w fun e w'=>e=.returned (.int .u64 0)/\w'=w:=by
 have hf:=i_ h true (by simp [h0]);clear h h0;go_enter func113,ntmps113;go_wp2_with (go_at_call 80;refine hf.mono ?_;rintro e w1 ⟨rfl,rfl⟩);go_ret;exact ⟨rfl,rfl⟩
theorem number_short(h:dW w r a cap bs s)(k:Nat)(hk:k<=8)(h0:s.e=0)(hl:bs.length<s.nx+k):
 Calls prog 113 #[.pointer (some ⟨r,0,none⟩),.int .i64 k] w fun e w'=>e=.returned (.int .u64 0)/\aN w r a cap bs {s with e:=5,at_:=bs.length} w':=by
 have hf:=i_ h false (by simp [h0]);have k0:=h.cells.1;have k2:=h.cells.2.2.1;have hle:=h.le;have gJ:=h.nx;have d1:(bs.length:Int)-(s.nx:Int)<(k:Int):=by omega
 have HF:Hid (∀W:World,Below w.heap.size w W->Calls prog 112 #[.pointer (some ⟨r,0,none⟩),.int .i64 5,.int .i64 bs.length] W fun e w'=>e=.returned (.tuple #[])/\aN w r a cap bs {s with e:=5,at_:=bs.length} w'):=hd fun W hW=>
  (tC (h.below hW) 5 bs.length).mono fun e w' ⟨he,ho⟩=>⟨he,by
   rw [eB,aah ⟨h0,by decide⟩]at ho
   exact ⟨ho.1,(Mod.aS _ hW).trans ho.2 (fun _ h=> .inl h)⟩⟩
 clear h h0;obtain ⟨fr,nx,e,at_⟩:=s;simp only at*
 go_enter func113,ntmps113;go_upto_region 3 with(go_at_call 80;refine hf.mono ?_;rintro e w1 ⟨rfl,rfl⟩);go_quiet (fail)
 have uV:=HF.out (w1.drewN nq) (ck w1 nq);have k0':(w1.drewN nq).cell? ⟨r,0,none⟩=some (.slice a bs.length cap):=k0;go_wp2_with (go_at_call 112;refine uV.mono ?_;rintro e w2 ⟨rfl,ho⟩);go_ret;exact ⟨rfl,ho⟩
theorem Jt(h:dW w r a cap bs s)(k:Nat)(hk:1<=k/\k<=8):
 Calls prog 113 #[.pointer (some ⟨r,0,none⟩),.int .i64 k] w fun e w'=>e=.returned (.int .u64 ((az bs k s).1:Nat))/\aN w r a cap bs (az bs k s).2 w':=by
 unfold az;by_cases h0:s.e=0
 ·rw [aaf (by simp [h0])];by_cases hl:bs.length<s.nx+k
  ·rw [aah hl];exact number_short h k hk.2 h0 hl
  ·rw [aaf hl];exact number_ok h k hk h0 (by omega)
 ·rw [aah h0];exact (number_no h k h0).mono fun e w' ⟨he,hw⟩=>⟨he,by subst hw;exact aN.refl h⟩
theorem vW(hb:rZ bs)(k:Nat)(hk:k<=2):(az bs k s).1<65536:=by
 unfold az;split
 ·simp
 ·split
  ·simp
  ·have h1:=BS bs s.nx hb k;have h2:2^(8*k)<=2^16:=Nat.pow_le_pow_right (by decide) (by omega);have h3:(2:Nat)^16=65536:=by decide
   simp only
   omega
theorem vV(h:dW w r a cap bs s)(k:Nat)(hk:1<=k/\k<=2):
 Calls prog 111 #[.pointer (some ⟨r,0,none⟩),.int .i64 k] w fun e w'=>e=.returned (.int .i64 ((az bs k s).1:Nat))/\aN w r a cap bs (az bs k s).2 w':=by
 have hn:=Jt h k ⟨hk.1,by omega⟩;have hl:=vW (s:=s) h.byte k hk.2;generalize (az bs k s).1=v at*
 clear h;go_enter func111,ntmps111;go_wp2_with (go_at_call 113;refine hn.mono ?_;rintro e w1 ⟨rfl,ho⟩);go_ret;exact ⟨rfl,ho⟩
def cN(bs:List Nat)(k:Nat)(f:Nat->Int)(s:St):Nat×St:=((az bs k s).1,eB (az bs k s).2 (f (az bs k s).1) (az bs k s).2.fr)
theorem MK(h:dW w r a cap bs s)(most:Int):
 Calls prog 84 #[.pointer (some ⟨r,0,none⟩),.int .i64 most] w fun e w'=>e=.returned (.int .i64 ((cN bs 1 (fun n=>dQ most n) s).1:Nat))/\aN w r a cap bs (cN bs 1 (fun n=>dQ most n) s).2 w':=by
 have hn:=vV h 1 ⟨by omega,by omega⟩;have hl:=vW (s:=s) h.byte 1 (by omega);have HF:Hid (∀(W1 W:World) (s':St) (x:Int),aN w r a cap bs s' W1->Below W1.heap.size W1 W->Calls prog 112 #[.pointer (some ⟨r,0,none⟩),.int .i64 x,.int .i64 s'.fr] W fun e w'=>e=.returned (.tuple #[])/\aN w r a cap bs (eB s' x s'.fr) w'):=hd fun W1 W s' x hR hW=>
  (tC (hR.after hW).1 x s'.fr).mono fun e w' ⟨he,ho⟩=>⟨he,(hR.after hW).trans ho⟩
 unfold cN;simp only
 have hs:=T6 ((az bs 1 s).1:Nat) most;generalize dQ most ((az bs 1 s).1:Nat)=E at*
 generalize (az bs 1 s).1=v at*
 generalize (az bs 1 s).2=s1 at*
 clear h;go_enter func84,ntmps84;go_upto_region 2 with(go_at_call 111;refine hn.mono ?_;rintro e w1 ⟨rfl,ho⟩);have k1:=ho.1.cells.2.1;have HO:=hd ho;clear ho hn
 go_region_with (first|(go_at_call 41;with_reducible refine (hs _).mono ?_;rintro e w2 ⟨rfl,rfl⟩)|(go_at_call 112;refine (HF.out _ _ s1 E HO.out (ck _ _)).mono ?_;rintro e w2 ⟨rfl,jX⟩))
 all_goals go_wp2_with fail
 all_goals go_ret
 all_goals exact ⟨rfl,jX⟩
theorem T7(h:dW w r a cap bs s)(P:Nat)(hP:P<=1000000):
 Calls prog 85 #[.pointer (some ⟨r,0,none⟩),.int .i64 P] w fun e w'=>e=.returned (.int .i64 ((cN bs 1 (fun n=>bf 0 ((P:Int)-1) n) s).1:Nat))/\aN w r a cap bs (cN bs 1 (fun n=>bf 0 ((P:Int)-1) n) s).2 w':=by
 have hn:=vV h 1 ⟨by omega,by omega⟩;have hl:=vW (s:=s) h.byte 1 (by omega);have HF:Hid (∀(W1 W:World) (s':St) (x:Int),aN w r a cap bs s' W1->Below W1.heap.size W1 W->Calls prog 112 #[.pointer (some ⟨r,0,none⟩),.int .i64 x,.int .i64 s'.fr] W fun e w'=>e=.returned (.tuple #[])/\aN w r a cap bs (eB s' x s'.fr) w'):=hd fun W1 W s' x hR hW=>
  (tC (hR.after hW).1 x s'.fr).mono fun e w' ⟨he,ho⟩=>⟨he,(hR.after hW).trans ho⟩
 unfold cN;simp only
 have hs:=vU ((az bs 1 s).1:Nat) 0 ((P:Int)-1);have eP:IntKind.i64.wrap ((P:Int)-1)=(P:Int)-1:=by rw [abG];omega
 generalize bf 0 ((P:Int)-1) ((az bs 1 s).1:Nat)=E at*
 generalize (az bs 1 s).1=v at*
 generalize (az bs 1 s).2=s1 at*
 clear h;go_enter func85,ntmps85;go_upto_region 2 with(go_at_call 111;refine hn.mono ?_;rintro e w1 ⟨rfl,ho⟩);have k1:=ho.1.cells.2.1;have HO:=hd ho;clear ho hn
 go_region_with (first|(go_at_call 40;with_reducible refine (hs _).mono ?_;rintro e w2 ⟨rfl,rfl⟩)|(go_at_call 112;refine (HF.out _ _ s1 E HO.out (ck _ _)).mono ?_;rintro e w2 ⟨rfl,jX⟩))
 all_goals go_wp2_with fail
 all_goals go_ret
 all_goals exact ⟨rfl,jX⟩
end
def cL{α:Type}(whole:sx α)(s:St)(rest:sx α):Prop:=(s.e=0/\s.at_=0/\whole=rest)\/(s.e≠0/\whole=.er s.e s.at_)
variable{s:St}{x y:Int}{bs:List Nat}{k:Nat}{α:Type}
theorem DI(h:s.e≠0):eB s x y=s:=by unfold eB;rw [aaf (fun k=>h k.1)]
theorem tD:eB s 0 y=s:=by unfold eB;rw [aaf (fun k=>k.2 rfl)]
theorem Jh(h:s.e=0)(hx:x≠0):eB s x y={s with e:=x,at_:=y}:=by unfold eB;rw [aah ⟨h,hx⟩]
theorem Ju(h:s.e≠0):az bs k s=(0,s):=by unfold az;rw [aah h]
theorem T8{f:Nat->Int}(h:s.e≠0):cN bs k f s=(0,s):=by
 unfold cN;rw [Ju h,DI h]
theorem cL.uh{whole:sx α}{f:Nat->Int}{g:Nat->fO α}(h:cL whole s (bQ (il k f) g bs s.nx)):
 cL whole (cN bs k f s).2 (g (cN bs k f s).1 bs (cN bs k f s).2.nx):=by
 rcases h with⟨h1,h2,h3⟩|⟨h1,h2⟩
 ·unfold bQ il at h3;unfold cN az;rw [aaf (by simp [h1])];by_cases hl:bs.length<s.nx+k
  ·rw [aah hl]at h3⊢;right;rw [DI (by simp)];exact ⟨by simp,h3⟩
  ·rw [aaf hl]at h3⊢;simp only
   by_cases hf:f (gD bs s.nx k)≠0
   ·rw [aah hf]at h3;rw [Jh (by exact h1) hf];right;exact ⟨hf,h3⟩
   ·rw [aaf hf]at h3;have KN:f (gD bs s.nx k)=0:=by simpa using hf
    rw [KN,tD];left;exact ⟨h1,h2,h3⟩
 ·rw [T8 h1];right;exact ⟨h1,h2⟩
theorem JI{f:Nat->Int}(h:(cN bs k f s).2.e=0):s.e=0/\f (cN bs k f s).1=0/\s.nx+k<=bs.length/\(cN bs k f s).1=gD bs s.nx k/\(cN bs k f s).2={s with fr:=s.nx,nx:=s.nx+k}:=by
 by_cases h0:s.e=0
 ·unfold cN az at*
  rw [aaf (by simp [h0])]at*
  by_cases hl:bs.length<s.nx+k
  ·rw [aah hl,DI (by simp)]at h;simp at h
  ·rw [aaf hl]at*
   simp only at*
   by_cases hf:f (gD bs s.nx k)=0
   ·rw [hf,tD]at*
    exact ⟨h0,by trivial,by omega,by trivial,by trivial⟩
   ·rw [Jh (by exact h0) hf]at h;exact absurd h hf
 ·rw [T8 h0]at h;exact absurd h h0
theorem cL.good{whole rest:sx α}(h:cL whole s rest)(h0:s.e=0):whole=rest/\s.at_=0:=by
 rcases h with⟨_,h2,h3⟩|⟨h1,_⟩
 ·exact ⟨h3,h2⟩
 ·exact absurd h0 h1
theorem cL.bad{whole rest:sx α}(h:cL whole s rest)(h0:s.e≠0):whole=.er s.e s.at_:=by
 rcases h with⟨h1,_⟩|⟨_,h2⟩
 ·exact absurd h1 h0
 ·exact h2
def pZ(acc:List Nat)(n:Nat):Int:=if n=lL.getD acc.length 0 then 0 else 4
section
variable{w:World} {r:Nat} {a:Option Addr} {cap:Nat} {bs:List Nat} {s:St}
theorem head_any(h:dW w r a cap bs s)(h0:s.e=0/\s.at_=0/\s.nx=0):
 Calls prog 79 #[.pointer (some ⟨r,0,none⟩)] w fun e w'=>e=.returned (.tuple #[])/\∃s',aN w r a cap bs s' w'/\∃acc,cL (iQ (fun acc=>il 1 (pZ acc)) 5 [] bs 0) s' (vZ acc bs s'.nx):=by
 have HS:Hid (∃s' acc,acc.length=0/\(s'.e=0->s'.nx=0)/\cL (iQ (fun acc=>il 1 (pZ acc)) 5 [] bs 0) s' (iQ (fun acc=>il 1 (pZ acc)) 5 acc bs s'.nx)/\aN w r a cap bs s' w):=hd ⟨s,[],rfl,fun _=>h0.2.2,.inl ⟨h0.1,h0.2.1,by rw [h0.2.2]⟩,aN.refl h⟩;clear h h0;go_enter func79,ntmps79;go_wp2_with fail;go_loopg [2,3,4,5,6,7,8,9,10,11,12,13,14] 5 (fun g _ v3 _ _ _ _ _ _ _ _ _ _ _ wr=>∃i:Nat,i+g=5/\v3=.int .i64 (i:Int)/\Hid (∃s' acc,acc.length=i/\(s'.e=0->s'.nx=i)/\cL (iQ (fun acc=>il 1 (pZ acc)) 5 [] bs 0) s' (iQ (fun acc=>il 1 (pZ acc)) g acc bs s'.nx)/\aN w r a cap bs s' wr))
 case atStart=>exact ⟨0,by omega,by go_num,HS⟩
 case round=>
  obtain ⟨i,hi,rfl,HW⟩:=hrel;clear HS;by_cases h0:gk=0
  ·subst h0;obtain rfl:i=5:=by omega
   go_wp2_with fail;refine bodyPost_end (abA rfl _ _ _) rfl ?_;obtain ⟨s',acc,-,-,h3,h4⟩:=HW.out;exact ⟨rfl,s',h4,acc,h3⟩
  ·obtain ⟨g,rfl⟩:∃g,gk=g+1:=⟨gk-1,by omega⟩;obtain ⟨s',acc,e1,e2,e3,e4⟩:=HW.out;clear HW;have hn:Calls prog 111 #[.pointer (some ⟨r,0,none⟩),.int .i64 1] wr.drew fun e w'=>e=.returned (.int .i64 ((az bs 1 s').1:Nat))/\aN wr r a cap bs (az bs 1 s').2 w':=
    (vV (e4.1.below (ck wr 1)) 1 ⟨by omega,by omega⟩).mono fun e w' ⟨he,ho⟩=>⟨he,ho.1,(Mod.aS _ (ck wr 1)).trans ho.2 (fun _ h=> .inl h)⟩
   have hl:=vW (s:=s') e4.1.byte 1 (by omega);have e5:=cL.uh e3
   have HX:Hid ((az bs 1 s').2.e=0->(az bs 1 s').2.fr=i/\(az bs 1 s').2.nx=i+1):=hd (by
    intro hz;by_cases su:s'.e=0
    ·unfold az at hz⊢;rw [aaf (by simp [su])]at hz⊢;split at hz
     ·simp at hz
     ·next hle=>
      rw [aaf hle];exact ⟨e2 su,by simp [e2 su]⟩
    ·rw [Ju su]at hz
     exact absurd hz su)
   have HN:Hid (∀(W1 W2:World),aN wr r a cap bs (az bs 1 s').2 W1->aN W1 r a cap bs (eB (az bs 1 s').2 (pZ acc (az bs 1 s').1) (i:Int)) W2->∃s' acc,acc.length=i+1/\(s'.e=0->s'.nx=i+1)/\cL (iQ (fun acc=>il 1 (pZ acc)) 5 [] bs 0) s' (iQ (fun acc=>il 1 (pZ acc)) g acc bs s'.nx)/\aN w r a cap bs s' W2):=hd (by
    intro W1 W2 o1 o2;have hsame:eB (az bs 1 s').2 (pZ acc (az bs 1 s').1) (i:Int)=(cN bs 1 (pZ acc) s').2:=by
     unfold cN;by_cases hz:(az bs 1 s').2.e=0
     ·rw [(HX.out hz).1]
     ·rw [DI hz,DI hz]
    rw [hsame]at o2;refine ⟨_,acc++[(cN bs 1 (pZ acc) s').1],by simp [e1],fun hz=> ?_,e5,(e4.trans o1).trans o2⟩;have:=JI hz;rw [this.2.2.2.2]
    simp [e2 this.1])
   clear e5 e3 HX;have HA:=hd e1;clear e1 e2 h0;have HE:Hid (pZ acc (az bs 1 s').1=if(az bs 1 s').1=lL.getD i 0 then 0 else 4):=hd (by unfold pZ;rw [HA.out]);have HF:Hid (∀(W1:World),aN wr r a cap bs (az bs 1 s').2 W1->Calls prog 112 #[.pointer (some ⟨r,0,none⟩),.int .i64 4,.int .i64 i] W1 fun e w'=>e=.returned (.tuple #[])/\aN W1 r a cap bs (eB (az bs 1 s').2 4 (i:Int)) w'):=hd fun W1 o1=>tC o1.1 4 (i:Int)
   clear HA e4;generalize pZ acc (az bs 1 s').1=E at*
   generalize (az bs 1 s').1=v at*
   generalize (az bs 1 s').2=s1 at*
   obtain ⟨I,hI⟩:∃I:Int,Hid ((i:Int)=I):=⟨_,rfl⟩;rw [hI.out]at HF HN;have hc:i=0\/i=1\/i=2\/i=3\/i=4:=by omega
   rcases hc with rfl|rfl|rfl|rfl|rfl
   ·obtain rfl:g=4:=by omega
    obtain rfl:I=0:=by rw [<-hI.out];rfl
    by_cases hv:v=70
    ·obtain rfl:E=0:=by rw [HE.out,show lL.getD 0 0=70 from rfl,aah hv]
     subst hv;clear HE HF hl;go_upto_region 3 with fail
     go_region_with (first|(go_at_call 111;refine hn.mono ?_;rintro e w1 ⟨rfl,ho⟩))
     all_goals go_wp2_with fail
     all_goals go_roundg 4
     all_goals first|omega|exact ⟨1,by omega,rfl,hd (HN.out w1 w1 ho (by rw [tD];exact aN.refl ho.1))⟩
    ·obtain rfl:E=4:=by rw [HE.out,show lL.getD 0 0=70 from rfl,aaf hv]
     have KO:((v:Int)!=IntKind.i64.wrap (((⟨#[70,66,67,70,1]⟩:ByteArray)[0]'(by decide)).toNat:Int))=true:=by
      rw [show IntKind.i64.wrap (((⟨#[70,66,67,70,1]⟩:ByteArray)[0]'(by decide)).toNat:Int)=70 by decide+kernel]
      simp;omega
     clear HE hv;go_upto_region 3 with fail
     go_region_with (first|(go_at_call 111;refine hn.mono ?_;rintro e w1 ⟨rfl,ho⟩;have jj:=HF.out w1 ho))
     all_goals go_wp2_with (go_at_call 112;refine jj.mono ?_;rintro e w2 ⟨rfl,jX⟩)
     all_goals go_roundg 4
     all_goals first|omega|exact ⟨1,by omega,rfl,hd (HN.out w1 w2 ho jX)⟩
   ·obtain rfl:g=3:=by omega
    obtain rfl:I=1:=by rw [<-hI.out];rfl
    by_cases hv:v=66
    ·obtain rfl:E=0:=by rw [HE.out,show lL.getD 1 0=66 from rfl,aah hv]
     subst hv;clear HE HF hl;go_upto_region 3 with fail
     go_region_with (first|(go_at_call 111;refine hn.mono ?_;rintro e w1 ⟨rfl,ho⟩))
     all_goals go_wp2_with fail
     all_goals go_roundg 3
     all_goals first|omega|exact ⟨2,by omega,rfl,hd (HN.out w1 w1 ho (by rw [tD];exact aN.refl ho.1))⟩
    ·obtain rfl:E=4:=by rw [HE.out,show lL.getD 1 0=66 from rfl,aaf hv]
     have KO:((v:Int)!=IntKind.i64.wrap (((⟨#[70,66,67,70,1]⟩:ByteArray)[1]'(by decide)).toNat:Int))=true:=by
      rw [show IntKind.i64.wrap (((⟨#[70,66,67,70,1]⟩:ByteArray)[1]'(by decide)).toNat:Int)=66 by decide+kernel]
      simp;omega
     clear HE hv;go_upto_region 3 with fail
     go_region_with (first|(go_at_call 111;refine hn.mono ?_;rintro e w1 ⟨rfl,ho⟩;have jj:=HF.out w1 ho))
     all_goals go_wp2_with (go_at_call 112;refine jj.mono ?_;rintro e w2 ⟨rfl,jX⟩)
     all_goals go_roundg 3
     all_goals first|omega|exact ⟨2,by omega,rfl,hd (HN.out w1 w2 ho jX)⟩
   ·obtain rfl:g=2:=by omega
    obtain rfl:I=2:=by rw [<-hI.out];rfl
    by_cases hv:v=67
    ·obtain rfl:E=0:=by rw [HE.out,show lL.getD 2 0=67 from rfl,aah hv]
     subst hv;clear HE HF hl;go_upto_region 3 with fail
     go_region_with (first|(go_at_call 111;refine hn.mono ?_;rintro e w1 ⟨rfl,ho⟩))
     all_goals go_wp2_with fail
     all_goals go_roundg 2
     all_goals first|omega|exact ⟨3,by omega,rfl,hd (HN.out w1 w1 ho (by rw [tD];exact aN.refl ho.1))⟩
    ·obtain rfl:E=4:=by rw [HE.out,show lL.getD 2 0=67 from rfl,aaf hv]
     have KO:((v:Int)!=IntKind.i64.wrap (((⟨#[70,66,67,70,1]⟩:ByteArray)[2]'(by decide)).toNat:Int))=true:=by
      rw [show IntKind.i64.wrap (((⟨#[70,66,67,70,1]⟩:ByteArray)[2]'(by decide)).toNat:Int)=67 by decide+kernel]
      simp;omega
     clear HE hv;go_upto_region 3 with fail
     go_region_with (first|(go_at_call 111;refine hn.mono ?_;rintro e w1 ⟨rfl,ho⟩;have jj:=HF.out w1 ho))
     all_goals go_wp2_with (go_at_call 112;refine jj.mono ?_;rintro e w2 ⟨rfl,jX⟩)
     all_goals go_roundg 2
     all_goals first|omega|exact ⟨3,by omega,rfl,hd (HN.out w1 w2 ho jX)⟩
   ·obtain rfl:g=1:=by omega
    obtain rfl:I=3:=by rw [<-hI.out];rfl
    by_cases hv:v=70
    ·obtain rfl:E=0:=by rw [HE.out,show lL.getD 3 0=70 from rfl,aah hv]
     subst hv;clear HE HF hl;go_upto_region 3 with fail
     go_region_with (first|(go_at_call 111;refine hn.mono ?_;rintro e w1 ⟨rfl,ho⟩))
     all_goals go_wp2_with fail
     all_goals go_roundg 1
     all_goals first|omega|exact ⟨4,by omega,rfl,hd (HN.out w1 w1 ho (by rw [tD];exact aN.refl ho.1))⟩
    ·obtain rfl:E=4:=by rw [HE.out,show lL.getD 3 0=70 from rfl,aaf hv]
     have KO:((v:Int)!=IntKind.i64.wrap (((⟨#[70,66,67,70,1]⟩:ByteArray)[3]'(by decide)).toNat:Int))=true:=by
      rw [show IntKind.i64.wrap (((⟨#[70,66,67,70,1]⟩:ByteArray)[3]'(by decide)).toNat:Int)=70 by decide+kernel]
      simp;omega
     clear HE hv;go_upto_region 3 with fail
     go_region_with (first|(go_at_call 111;refine hn.mono ?_;rintro e w1 ⟨rfl,ho⟩;have jj:=HF.out w1 ho))
     all_goals go_wp2_with (go_at_call 112;refine jj.mono ?_;rintro e w2 ⟨rfl,jX⟩)
     all_goals go_roundg 1
     all_goals first|omega|exact ⟨4,by omega,rfl,hd (HN.out w1 w2 ho jX)⟩
   ·obtain rfl:g=0:=by omega
    obtain rfl:I=4:=by rw [<-hI.out];rfl
    by_cases hv:v=1
    ·obtain rfl:E=0:=by rw [HE.out,show lL.getD 4 0=1 from rfl,aah hv]
     subst hv;clear HE HF hl;go_upto_region 3 with fail
     go_region_with (first|(go_at_call 111;refine hn.mono ?_;rintro e w1 ⟨rfl,ho⟩))
     all_goals go_wp2_with fail
     all_goals go_roundg 0
     all_goals first|omega|exact ⟨5,by omega,rfl,hd (HN.out w1 w1 ho (by rw [tD];exact aN.refl ho.1))⟩
    ·obtain rfl:E=4:=by rw [HE.out,show lL.getD 4 0=1 from rfl,aaf hv]
     have KO:((v:Int)!=IntKind.i64.wrap (((⟨#[70,66,67,70,1]⟩:ByteArray)[4]'(by decide)).toNat:Int))=true:=by
      rw [show IntKind.i64.wrap (((⟨#[70,66,67,70,1]⟩:ByteArray)[4]'(by decide)).toNat:Int)=1 by decide+kernel]
      simp;omega
     clear HE hv;go_upto_region 3 with fail
     go_region_with (first|(go_at_call 111;refine hn.mono ?_;rintro e w1 ⟨rfl,ho⟩;have jj:=HF.out w1 ho))
     all_goals go_wp2_with (go_at_call 112;refine jj.mono ?_;rintro e w2 ⟨rfl,jX⟩)
     all_goals go_roundg 0
     all_goals first|omega|exact ⟨5,by omega,rfl,hd (HN.out w1 w2 ho jX)⟩
end
def fJ(l:List Nat):List Value:=l.map fun n:Nat=>Value.int .u64 (n:Int)
theorem T9(l:List Nat):(fJ l).length=l.length*1:=by simp [fJ]
theorem FY(l:List Nat)(k:Nat)(h:k<l.length):(fJ l)[k]?=some (.int .u64 ((l.getD k 0:Nat):Int)):=by simp [fJ,List.getD_eq_getElem?_getD,List.getElem?_eq_getElem h]
theorem Na(l:List Nat):∀u∈fJ l,u.oneCell'=true:=by
 intro u hu;obtain ⟨x,_,rfl⟩:=List.mem_map.mp hu;rfl
theorem labC_app(l m:List Nat):fJ l++fJ m=fJ (l++m):=by simp [fJ]
variable{w:World}{a:Act}{l:List Nat}{k:Nat}{P:Program}{ops:Array Oper}{o:Oper}
theorem N_{a:Option Addr}(h:Rd w a (fJ l))(hl:0<l.length):∃b off,a=some ⟨b,off,none⟩/\∀i,i<l.length->w.cell? ⟨b,off+i,none⟩=some (.int .u64 ((l.getD i 0:Nat):Int)):=by
 obtain ⟨b,o,rfl,_⟩:=h 0 _ (FY l 0 hl);refine ⟨b,o,rfl,fun i hi=> ?_⟩;obtain ⟨b',o',e,hc⟩:=h i _ (FY l i hi)
 cases e
 exact hc
theorem lb_same(_XJ:1<=k)(h:k<l.length)(e:l.getD k 0=l.getD (k-1) 0):kP l (l.length-k) k=(8,k):=by
 rw [show l.length-k=(l.length-(k+1))+1 by omega,kP,aah e]
theorem lb_less(_XJ:1<=k)(h:k<l.length)(e:l.getD k 0<l.getD (k-1) 0):kP l (l.length-k) k=(7,k):=by
 rw [show l.length-k=(l.length-(k+1))+1 by omega,kP,aaf (by omega),aah e]
theorem lb_next(_XJ:1<=k)(h:k<l.length)(e:l.getD (k-1) 0<l.getD k 0):kP l (l.length-k) k=kP l (l.length-(k+1)) (k+1):=by
 rw [show l.length-k=(l.length-(k+1))+1 by omega,kP,aaf (by omega),aaf (by omega)]
theorem Nb(h0:l.length≠0)(h8:l.length<=8):fN l=kP l (l.length-1) 1:=by
 unfold fN;rw [aaf h0,aaf (by omega)]
theorem Nc(a:Option Addr)(cap:Nat)(l:List Nat)(w:World)(hC:Rd w a (fJ l)):
 Calls prog 38 #[.slice a l.length cap] w fun e w'=>e=.returned (.tuple #[.int .i64 (fN l).1,.int .i64 (fN l).2])/\∃n,w'=w.drewN n:=by
 by_cases h0:l.length=0
 ·have e1:fN l=(1,0):=by unfold fN;rw [aah h0]
  rw [e1];have GY:((l.length:Int)==0)=true:=by rw [beq_iff_eq];omega
  clear h0 e1 hC;generalize l.length=len at*
  go_enter func38,ntmps38
  go_wp2
  go_ret2;exact ⟨rfl,0,rfl⟩
 ·by_cases h8:8<l.length
  ·have e1:fN l=(3,8):=by unfold fN;rw [aaf h0,aah h8]
   rw [e1];have GY:((l.length:Int)==0)=false:=by rw [abh];omega
   have h8':(8:Int)<(l.length:Int):=by omega
   clear h0 e1 hC h8;generalize l.length=len at*
   go_enter func38,ntmps38
   go_wp2
   go_ret2;exact ⟨rfl,0,rfl⟩
  ·have hS:Hid (fN l=kP l (l.length-1) 1):=Nb h0 (by omega);obtain ⟨b,off,rfl,hc⟩:=N_ hC (by omega);replace hc:=hd hc;clear hC;have GY:((l.length:Int)==0)=false:=by rw [abh];omega
   have h8':(l.length:Int)<=8:=by omega
   have h8d:decide ((8:Int)<(l.length:Int))=false:=by simp;omega
   go_enter func38,ntmps38
   go_wp2
   go_loopw [4] (fun i wr=>∃k:Nat,1<=k/\k<=l.length/\i=.int .i64 k/\Hid (fN l=kP l (l.length-k) k)/\∃n,wr=w.drewN n) (fun i _=>l.length-(intOf i).toNat)
   case atStart=>exact ⟨1,by omega,by omega,rfl,hS,0,rfl⟩
   case round=>
    obtain ⟨k,mJ,hk,rfl,hm,n,rfl⟩:=hrel;by_cases af:k<l.length
    ·have hx:w.cell? ⟨b,off+k,none⟩=some (.int .u64 (l.getD k 0:Nat)):=hc.out k af;have hy:w.cell? ⟨b,off+(k-1),none⟩=some (.int .u64 (l.getD (k-1) 0:Nat)):=hc.out (k-1) (by omega);have fI:(k:Int)<(l.length:Int):=by omega
     have hk1':(1:Int)<=(k:Int):=by omega
     rcases Nat.lt_trichotomy (l.getD k 0) (l.getD (k-1) 0)with Ad|Ad|Ad
     ·have H:Hid (fN l=(7,k)):=hm.out.trans (lb_less mJ af Ad);clear hm hS;generalize l.getD k 0=x at*
      generalize l.getD (k-1) 0=y at*
      have t1:((x:Int)==(y:Int))=false:=by simp;omega
      have t2:(x:Int)<(y:Int):=by omega
      clear Ad;go_wp2_with fail;go_quiet (fail)
      go_wp2_with fail;go_quiet (fail)
      go_wp2
      go_ret2;exact ⟨by rw [H.out];rfl,by simp only [World.drewN_drewN];exact ⟨_,rfl⟩⟩
     ·have H:Hid (fN l=(8,k)):=hm.out.trans (lb_same mJ af Ad);clear hm hS;generalize l.getD k 0=x at*
      generalize l.getD (k-1) 0=y at*
      have t1:((x:Int)==(y:Int))=true:=by simp;omega
      clear Ad;go_wp2_with fail;go_quiet (fail)
      go_wp2
      go_ret2;exact ⟨by rw [H.out];rfl,by simp only [World.drewN_drewN];exact ⟨_,rfl⟩⟩
     ·have H:Hid (fN l=kP l (l.length-(k+1)) (k+1)):=hm.out.trans (lb_next mJ af Ad);clear hm hS;generalize l.getD k 0=x at*
      generalize l.getD (k-1) 0=y at*
      have t1:((x:Int)==(y:Int))=false:=by simp;omega
      have t2:decide ((x:Int)<(y:Int))=false:=by simp;omega
      have t3:(y:Int)<=(x:Int):=by omega
      clear Ad;go_wp2_with fail;go_quiet (fail)
      go_wp2_with fail;go_quiet (fail)
      go_wp2
      exact ⟨⟨k+1,by omega,by omega,by go_num,H,_,rfl⟩,by simp [intOf];omega⟩
    ·have e:k=l.length:=by omega
     have H:Hid (fN l=(0,0)):=by show _=_;rw [hm.out,e,Nat.sub_self];rfl
     clear hm hS;have fI:decide ((k:Int)<(l.length:Int))=false:=by simp;omega
     have dH:(l.length:Int)<=(k:Int):=by omega
     go_wp2
     go_ret2;exact ⟨by rw [H.out];rfl,n,rfl⟩
theorem SV(l:List Nat)(v:Nat):∀m i,1<=i->i+m=l.length->(kP l m i).1=0->kP (l++[v]) (m+1) i=kP (l++[v]) 1 l.length
 |0,i,_,h,_=>by rw [show i=l.length by omega]
 |m+1,i,h1,h,h0=>by
  have e1:(l++[v]).getD i 0=l.getD i 0:=by rw [aac,aaE (by omega),<-aac]
  have e2:(l++[v]).getD (i-1) 0=l.getD (i-1) 0:=by rw [aac,aaE (by omega),<-aac]
  rw [kP]at h0;rw [kP,e1,e2];by_cases h2:l.getD i 0=l.getD (i-1) 0
  ·rw [aah h2]at h0;simp at h0
  ·rw [aaf h2]at h0⊢;by_cases h3:l.getD i 0<l.getD (i-1) 0
   ·rw [aah h3]at h0;simp at h0
   ·rw [aaf h3]at h0⊢;exact SV l v m (i+1) (by omega) (by omega) h0
theorem UG(l:List Nat)(v:Nat)(h:l=[]\/(fN l).1=0)(h8:l.length<8):((fN (l++[v])).1:Int)=Ac l v:=by
 have e0:fN (l++[v])=kP (l++[v]) l.length 1:=by
  rw [Nb (by simp) (by simp;omega)];simp
 rw [e0];by_cases hl:l.length=0
 ·have:l=[]:=aaN hl;subst this;rfl
 ·have h0:(kP l (l.length-1) 1).1=0:=by
   rcases h with rfl|h
   ·simp at hl
   ·rw [Nb hl (by omega)]at h;exact h
  have e1:=SV l v (l.length-1) 1 (by omega) (by omega) h0;rw [show l.length-1+1=l.length by omega]at e1;have e2:(l++[v]).getD l.length 0=v:=by simp
  have e3:(l++[v]).getD (l.length-1) 0=l.getD (l.length-1) 0:=by rw [aac,aaE (by omega),<-aac]
  rw [e1,kP,e2,e3];unfold Ac;rw [aaf hl];by_cases h2:v=l.getD (l.length-1) 0
  ·rw [aah h2,aah h2];rfl
  ·rw [aaf h2,aaf h2];by_cases h3:v<l.getD (l.length-1) 0
   ·rw [aah h3,aah h3];rfl
   ·rw [aaf h3,aaf h3];rfl
theorem mX{T e:TypeId}{z:Value}{size bytes:Nat}(hu:prog.underlying T=some (.slice e))(kI:(prog.info? e).map (fun i=>(i.zero,i.size,i.bytes))=some (some z,size,bytes))(gI:z.cells.size=size)(oF:bytes<=64)
 {w:World}{a:Option Addr}{n c:Nat}{xs:List Value}(hR:Row w e size a n c xs)(hn:n<=1000000000000)(us:List Value)(yq:us.length=size)(h1:∀u∈us,u.oneCell'=true):
 ∃a' c' w',(∀ty,(Builtin.append_ #[T,T] ty #[.slice a n c,.slice (some ⟨w.heap.size,0,none⟩) 1 1]).run prog (w.alloc (.cells us.toArray e))=.ok (.slice a' (n+1) c') w')/\
  Row w' e size a' (n+1) c' (xs++us)/\Mod (fun k=>ae a=some k) w w'/\(∀k,ae a'=some k->ae a=some k\/w.heap.size<=k):=by
 obtain ⟨i,k1,k2,k3,k4⟩:=info_parts kI;have hb:=aA w (.cells us.toArray e);have hh:=aae w (.cells us.toArray e);have hs:Src prog size T (.slice (some ⟨w.heap.size,0,none⟩) 1 1) 1 us (w.alloc (.cells us.toArray e)):=by
  refine Src.ofSlice _ hu _ _ _ _ (by omega) (fun j u hj=> ?_) h1;rw [kO,aaa _ _ _ _ _ _ hh,aaH];simpa using hj
 obtain ⟨a',c',w',m1,m2,m3,m4,_⟩:=mD (P:=prog) _ T e i _ size bytes hu k1 k2 k3 k4 gI (hR.below hb) _ 1 _ hs (by unfold maxLen;omega) (by
  have:(n+1)*bytes<=(n+1)*64:=abj _ oF
  omega)
 refine ⟨a',c',w',m1,m2,(Mod.aS _ hb).trans m3 (fun _ h=> .inl h),fun k hk=> ?_⟩;rcases m4 k hk with h|h
 ·exact .inl h
 ·exact .inr (by have:=hb.size;omega)
theorem dZ{rest:List Oper}{Q:Exit->Act->World->Prop}(lM:o.guard=none)(s x:Operand)(t:TypeId)
 (ho:o.op=.call {callee:=.builtin .append,args:=#[s,x],argTypes:=#[t,t]})(v vx v':Value)(w':World)(hs:a.eval s=v)(hx:a.eval x=vx)
 (fK:∀ty,(Builtin.append_ #[t,t] ty #[v,vx]).run P w=.ok v' w')(h:wpList P ops Q rest (a.put o.dst v') w'):wpList P ops Q (o::rest) a w:=
 wpList_plain lM fun K hK=>by
  unfold Oper.wp execOp
  simp only [ho,resolve,invoke,builtin,Sem.run_bind,Sem.run_pure,Result.andThen_ok,List.map_toArray,List.map_cons,List.map_nil,hs,hx,fK];exact hK _ _ h
theorem rN{K:Act->World->Prop}{Q:Exit->Act->World->Prop}{E:Prop}(lM:o.guard=none)(s x:Operand)(t:TypeId)
 (ho:o.op=.call {callee:=.builtin .append,args:=#[s,x],argTypes:=#[t,t]})(v vx v':Value)(w':World)(hs:a.eval s=v)(hx:a.eval x=vx)
 (fK:∀ty,(Builtin.append_ #[t,t] ty #[v,vx]).run P w=.ok v' w')(h:K (a.put o.dst v') w'):if Region.wanted o (yielded ops a.tmps)=true then Oper.wp P o a w K Q else E:=by
 have hw:Region.wanted o (yielded ops a.tmps)=true:=by simp [Region.wanted,lM]
 rw [aah hw];unfold Oper.wp execOp;simp only [ho,resolve,invoke,builtin,Sem.run_bind,Sem.run_pure,Result.andThen_ok,List.map_toArray,List.map_cons,List.map_nil,hs,hx,fK];exact h
theorem T_:(prog.info? 28).map (fun i=>(i.zero,i.size,i.bytes))=some (some (.int .u64 0),1,8):=by kernel_rfl
theorem FN:(prog.info? 3).map (fun i=>(i.zero,i.size,i.bytes))=some (some (.int .i64 0),1,8):=by kernel_rfl
theorem Tr:(prog.info? 35).map (fun i=>(i.zero,i.size,i.bytes))=some (some (.agg #[.int .i64 0,.int .i64 0,.int .i64 0,.int .i64 0,.int .i64 0]),5,40):=by kernel_rfl
theorem Ts:(prog.info? 38).map (fun i=>(i.zero,i.size,i.bytes))=some (some (.agg #[.int .i64 0,.slice none 0 0]),2,32):=by kernel_rfl
structure lN(w:World)(r:Nat)(a:Option Addr)(cap:Nat)(bs:List Nat)(s:St)(wr:World)(e size:Nat)(a1:Option Addr)(n c1:Nat)(xs:List Value):Prop where
 out:aN w r a cap bs s wr
 row:Row wr e size a1 n c1 xs
 new:∀k,ae a1=some k->w.heap.size<=k
section
variable{w wr w1:World} {r:Nat} {a:Option Addr} {cap:Nat} {bs:List Nat} {s s':St} {e size n c1:Nat} {a1:Option Addr} {xs:List Value}
theorem lN.step(h:lN w r a cap bs s wr e size a1 n c1 xs)(hr:r<w.heap.size)(o:aN wr r a cap bs s' w1):lN w r a cap bs s' w1 e size a1 n c1 xs:=
 ⟨h.out.trans o,h.row.mod o.2 (fun k hk e=>by have:=h.new k hk;omega),h.new⟩
theorem lN.after(h:lN w r a cap bs s wr e size a1 n c1 xs)(hb:Below wr.heap.size wr w1):lN w r a cap bs s w1 e size a1 n c1 xs:=
 ⟨h.out.after hb,h.row.below hb,h.new⟩
theorem Rd.apart{S:Nat->Prop}{B:Nat}{w w' w0:World}{a:Option Addr}{xs:List Value}(h0:Rd w0 a xs)(h:Rd w a xs)(hm:Mod S w w')(hs:∀k,S k->B<=k)(hB:B=w0.heap.size):Rd w' a xs:=fun j u hj=>by
 obtain ⟨b,o,rfl,hc⟩:=h j u hj;obtain ⟨b',o',e,Av⟩:=h0 j u hj
 cases e
 have hl:=aaj w0 _ Av;refine ⟨b,o,rfl, ?_⟩;rw [hm.cell (p:=⟨b,o+j,none⟩) (aaj w _ hc) (fun k=>by have:=hs _ k;simp only at this hl;omega)];exact hc
theorem lN.push{T:TypeId}{z:Value}{bytes:Nat}(h:lN w r a cap bs s wr e size a1 n c1 xs)(h0:dW w r a cap bs s')(hu:prog.underlying T=some (.slice e))(kI:(prog.info? e).map (fun i=>(i.zero,i.size,i.bytes))=some (some z,size,bytes))(gI:z.cells.size=size)(oF:bytes<=64)
 (hn:n<=1000000000000)(us:List Value)(yq:us.length=size)(h1:∀u∈us,u.oneCell'=true):
 ∃a' c' w',(∀ty,(Builtin.append_ #[T,T] ty #[.slice a1 n c1,.slice (some ⟨wr.heap.size,0,none⟩) 1 1]).run prog (wr.alloc (.cells us.toArray e))=.ok (.slice a' (n+1) c') w')/\lN w r a cap bs s w' e size a' (n+1) c' (xs++us):=by
 obtain ⟨a',c',w',k1,k2,k3,k4⟩:=mX hu kI gI oF h.row hn us yq h1;have hr:=h0.lt;refine ⟨a',c',w',k1,⟨⟨?_,h.out.2.trans k3 (fun i hi=> .inr (h.new i hi))⟩,k2,fun k hk=> ?_⟩⟩
 ·have o:=h.out.1;refine ⟨?_,Rd.apart h0.rd o.rd k3 h.new rfl,o.ne,o.byte,o.le,o.room,o.nx,o.fr⟩;rw [k3.block r o.lt (fun e=>by have:=h.new r e;omega)];exact o.obj
 ·rcases k4 k hk with h'|h'
  ·exact h.new k h'
  ·have:=h.out.2.size;omega
end
def O9(w:World)(r:Nat)(a:Option Addr)(cap:Nat)(bs:List Nat)(p n:Nat)(wr:World)(a1:Option Addr)(c1:Nat)(l:List Nat)(s:St):Prop:=
 lN w r a cap bs s wr 28 1 a1 l.length c1 (fJ l)/\cL (Gy bs p) s (iQ (fun acc=>il 8 (Ac acc)) (n-l.length) l bs s.nx)/\(s.e=0->n<=8/\(l=[]\/(fN l).1=0))
theorem numS_lt8{bs:List Nat}{s:St}(hb:rZ bs):(az bs 8 s).1<18446744073709551616:=by
 unfold az;split
 ·simp
 ·split
  ·simp
  ·exact UD (j:=8) (BS bs s.nx hb 8) (by omega)
def Oa(w:World)(r:Nat)(a:Option Addr)(cap:Nat)(bs:List Nat)(p:Nat)(a1:Option Addr)(c1:Nat)(l:List Nat)(w':World):Prop:=
 ∃s,lN w r a cap bs s w' 28 1 a1 l.length c1 (fJ l)/\cL (Gy bs p) s (vZ l bs s.nx)/\l.length<=255
section
variable{w:World} {r:Nat} {a:Option Addr} {cap:Nat} {bs:List Nat} {s:St}
theorem labels_any(h:dW w r a cap bs s)(h0:s.e=0/\s.at_=0):
 Calls prog 81 #[.pointer (some ⟨r,0,none⟩)] w fun e w'=>∃a1 c1 l,e=.returned (.slice a1 (List.length l) c1)/\Oa w r a cap bs s.nx a1 c1 l w':=by
 have hc:=MK h 8;have af:=vW (s:=s) h.byte 1 (by omega);have H:=hd h
 have HI:Hid (∀W,aN w r a cap bs (cN bs 1 (fun n=>dQ 8 n) s).2 W->O9 w r a cap bs s.nx (cN bs 1 (fun n=>dQ 8 n) s).1 W none 0 [] (cN bs 1 (fun n=>dQ 8 n) s).2):=hd (by
  intro W o;refine ⟨⟨o,Row.nil,fun k hk=>by cases hk⟩, ?_,fun hz=>⟨?_,.inl rfl⟩⟩
  ·exact cL.uh (g:=fun n=>iQ (fun acc=>il 8 (Ac acc)) n []) (.inl ⟨h0.1,h0.2,rfl⟩)
  ·have:=zK (JI hz).2.1
   omega)
 have VR:(cN bs 1 (fun n=>dQ 8 n) s).1<=255:=by
  unfold cN az;split
  ·simp
  ·split
   ·simp
   ·have:=BS bs s.nx h.byte 1;simp only
    omega
 clear h h0 af;generalize (cN bs 1 (fun n=>dQ 8 n) s).1=n at*
 generalize (cN bs 1 (fun n=>dQ 8 n) s).2=s1 at*
 generalize s.nx=p at*
 go_enter func81,ntmps81;go_upto_block 0 with(go_at_call 84;refine hc.mono ?_;rintro e w1 ⟨rfl,ho⟩);have HJ:=hd (HI.out _ ho);clear HI hc ho;go_wp2_with fail;go_loopg [3,5,6,9,10,11,12,13,14,15,16,17,18,19,20,21,22,23,24,25,26,27,28,29,30,31,32,33,34] n (fun g v3 _ _ _ _ _ _ _ _ _ _ _ _ _ _ _ _ _ _ _ _ _ _ _ _ _ _ _ _ wr=>∃(l:List Nat) (len:Nat) (a1:Option Addr) (c1:Nat) (s':St),v3=.slice a1 len c1/\len+g=n/\Hid (l.length=len)/\Hid (O9 w r a cap bs p n wr a1 c1 l s'))
 case atStart=>exact ⟨[],0,none,0,s1,rfl,by omega,hd rfl,HJ⟩
 case round=>
  clear HJ;obtain ⟨l,len,a1,c1,s',rfl,hlen,HL,HW⟩:=hrel;by_cases h0:gk=0
  ·subst h0;have dH:decide ((len:Int)<(n:Int))=false:=by simp;omega
   have tQ:(n:Int)<=(len:Int):=by omega
   have HE:Hid (∃l',Ending.returned (.slice a1 len c1)=.returned (.slice a1 (List.length l') c1)/\Oa w r a cap bs p a1 c1 l' wr):=hd (by
    refine ⟨l,by rw [HL.out],s',HW.out.1, ?_,by have:=HL.out;omega⟩;have:=HW.out.2.1;rw [show n-l.length=0 by have:=HL.out;omega]at this
    exact this)
   clear HW HL;go_wp2_with fail;go_ret;obtain ⟨l',h1,h2⟩:=HE.out;exact ⟨a1,c1,l',h1,h2⟩
  ·have af:(len:Int)<(n:Int):=by omega
   by_cases hz:s'.e=0
   ·have hf:=i_ HW.out.1.out.1 false (by simp [hz]);have Ae:=Jt HW.out.1.out.1 8 ⟨by omega,by omega⟩;have hu:=numS_lt8 (s:=s') HW.out.1.out.1.byte
    have HP:Hid (∀W,aN wr r a cap bs (az bs 8 s').2 W->∃a' c' w',(∀ty,(Builtin.append_ #[22,22] ty #[.slice a1 len c1,.slice (some ⟨W.heap.size,0,none⟩) 1 1]).run prog (W.alloc (.cells #[.int .u64 ((az bs 8 s').1:Nat)] 28))=.ok (.slice a' (len+1) c') w')/\lN w r a cap bs (az bs 8 s').2 w' 28 1 a' (len+1) c' (fJ (l++[(az bs 8 s').1]))):=hd (by
     intro W o;have h1:=HW.out.1.step H.out.lt o;rw [HL.out]at h1;obtain ⟨a',c',w',k1,k2⟩:=h1.push H.out underlying22 T_ rfl (by omega) (by omega) [.int .u64 ((az bs 8 s').1:Nat)] rfl (Na [(az bs 8 s').1]);refine ⟨a',c',w',k1, ?_⟩;rw [<-labC_app]
     exact k2)
    have HN:Hid (∀(W W2:World) a' c',lN w r a cap bs (az bs 8 s').2 W 28 1 a' (len+1) c' (fJ (l++[(az bs 8 s').1]))->aN W r a cap bs (eB (az bs 8 s').2 ((fN (l++[(az bs 8 s').1])).1:Nat) (az bs 8 s').2.fr) W2->∃uW,O9 w r a cap bs p n W2 a' c' (l++[(az bs 8 s').1]) uW):=hd (by
     intro W W2 a' c' hm o;have hg:=HW.out.2.2 hz;have Ay:=HL.out;rw [UG l _ hg.2 (by omega)]at o;have aJ:=HW.out.2.1;rw [show n-l.length=(n-(l.length+1))+1 by omega]at aJ;have h2:=cL.uh aJ;refine ⟨(cN bs 8 (Ac l) s').2, ?_, ?_, ?_⟩
     ·have:=hm.step H.out.lt o;rw [<-Ay,show l.length+1=(l++[(az bs 8 s').1]).length by simp]at this;exact this
     ·rw [show n-(l++[(az bs 8 s').1]).length=n-(l.length+1) by simp];exact h2
     ·intro yn;refine ⟨hg.1,.inr ?_⟩;have h3:=(JI yn).2.1;have h4:=UG l (az bs 8 s').1 hg.2 (by omega);have h5:(cN bs 8 (Ac l) s').1=(az bs 8 s').1:=rfl;rw [h5]at h3
      omega)
    clear HW h0 hz
    have HM:Hid (∀(W:World) a' c',lN w r a cap bs (az bs 8 s').2 W 28 1 a' (len+1) c' (fJ (l++[(az bs 8 s').1]))->Calls prog 38 #[.slice a' (len+1:Nat) c'] W fun e w'=>e=.returned (.tuple #[.int .i64 ((fN (l++[(az bs 8 s').1])).1:Nat),.int .i64 ((fN (l++[(az bs 8 s').1])).2:Nat)])/\∃n,w'=W.drewN n):=hd (by
     intro W a' c' hm;have:=Nc a' c' (l++[(az bs 8 s').1]) W hm.row.rd;rw [show(l++[(az bs 8 s').1]).length=len+1 by simp [HL.out]]at this
     exact this)
    have El:=HL;clear HL;generalize (az bs 8 s').1=v at*
    generalize (az bs 8 s').2=s2 at*
    generalize (fN (l++[v])).1=E at*
    generalize (fN (l++[v])).2=F at*
    go_upto_region 4 with(go_at_call 80;refine hf.mono ?_;rintro e w1 ⟨rfl,rfl⟩);go_upto_region 5 with(first|(go_at_call 113;refine Ae.mono ?_;rintro e w2 ⟨rfl,ho⟩;obtain ⟨a',c',w3,aO,hm⟩:=HP.out w2 ho;replace aO:=hd aO)|(at_builtin;refine dZ rfl _ _ _ rfl _ _ _ _ rfl rfl aO.out ?_;clear aO));have iG:=HM.out w3 a' c' hm;have Em:=hd hm;clear HM HP Ae hm;go_upto_region 6 with(go_at_call 38;refine iG.mono ?_;rintro e w4 ⟨rfl,wO⟩;replace wO:=hd wO);have p_:lN w r a cap bs s2 w4 28 1 a' (len+1) c' (fJ (l++[v])):=by
     obtain ⟨nn,e4⟩:=wO.out;rw [e4];exact Em.out.after (ck w3 nn)
    have k1:=p_.out.1.cells.2.1;have hfail:=tC p_.out.1 (E:Int) s2.fr;have HM4:=hd p_;clear p_ wO Em iG;go_wp2_with (go_at_call 112;refine hfail.mono ?_;rintro e w5 ⟨rfl,En⟩);obtain ⟨uW,hI⟩:=HN.out w4 w5 a' c' HM4.out En;go_roundg (gk-1)
    case rel=>exact ⟨l++[v],len+1,a',c',uW,rfl,by omega,hd (by rw [<-El.out];simp),hI⟩
    case measure=>omega
   ·have hf:=i_ HW.out.1.out.1 true (by simp [hz])
    have HE:Hid (∃l',Ending.returned (.slice a1 len c1)=.returned (.slice a1 (List.length l') c1)/\Oa w r a cap bs p a1 c1 l' wr):=hd (by
     refine ⟨l,by rw [HL.out],s',HW.out.1, ?_,by have:=HL.out;omega⟩
     exact .inr ⟨hz,HW.out.2.1.bad hz⟩)
    clear HW HL h0 hz;go_wp2_with (go_at_call 80;refine hf.mono ?_;rintro e w1 ⟨rfl,rfl⟩);go_ret;obtain ⟨l',h1,h2⟩:=HE.out;exact ⟨a1,c1,l',h1,h2⟩
end
def wD(l:List Nat):List Value:=l.map fun n:Nat=>Value.int .i64 (n:Int)
theorem natC_one(l:List Nat):∀u∈wD l,u.oneCell'=true:=by
 intro u hu;obtain ⟨x,_,rfl⟩:=List.mem_map.mp hu;rfl
theorem natC_app(l m:List Nat):wD l++wD m=wD (l++m):=by simp [wD]
def O_(w:World)(r:Nat)(a:Option Addr)(cap:Nat)(bs:List Nat)(P p n:Nat)(wr:World)(a1:Option Addr)(c1:Nat)(l:List Nat)(s:St):Prop:=
 lN w r a cap bs s wr 3 1 a1 l.length c1 (wD l)/\cL (Gz P bs p) s (iQ (fun _=>GX P) (n-l.length) l bs s.nx)
def Ob(w:World)(r:Nat)(a:Option Addr)(cap:Nat)(bs:List Nat)(P p:Nat)(a1:Option Addr)(c1:Nat)(l:List Nat)(w':World):Prop:=
 ∃s,lN w r a cap bs s w' 3 1 a1 l.length c1 (wD l)/\cL (Gz P bs p) s (vZ l bs s.nx)/\l.length<=255
theorem Tt{bs:List Nat}{s:St}{f:Nat->Int}(hb:rZ bs):(cN bs 1 f s).1<=255:=by
 unfold cN az;split
 ·simp
 ·split
  ·simp
  ·have:=BS bs s.nx hb 1;simp only
   omega
section
variable{w:World} {r:Nat} {a:Option Addr} {cap:Nat} {bs:List Nat} {s:St}
theorem table_any(h:dW w r a cap bs s)(h0:s.e=0/\s.at_=0)(P:Nat)(hP:P<=1000000):
 Calls prog 82 #[.pointer (some ⟨r,0,none⟩),.int .i64 P] w fun e w'=>∃a1 c1 l,e=.returned (.slice a1 (List.length l) c1)/\Ob w r a cap bs P s.nx a1 c1 l w':=by
 have hc:=MK h 64;have H:=hd h
 have HI:Hid (∀W,aN w r a cap bs (cN bs 1 (fun n=>dQ 64 n) s).2 W->O_ w r a cap bs P s.nx (cN bs 1 (fun n=>dQ 64 n) s).1 W none 0 [] (cN bs 1 (fun n=>dQ 64 n) s).2):=hd (by
  intro W o;refine ⟨⟨o,Row.nil,fun k hk=>by cases hk⟩, ?_⟩
  exact cL.uh (g:=fun n=>iQ (fun _=>GX P) n []) (.inl ⟨h0.1,h0.2,rfl⟩))
 have VR:(cN bs 1 (fun n=>dQ 64 n) s).1<=255:=Tt h.byte;clear h h0;generalize (cN bs 1 (fun n=>dQ 64 n) s).1=n at*
 generalize (cN bs 1 (fun n=>dQ 64 n) s).2=s1 at*
 generalize s.nx=p at*
 go_enter func82,ntmps82;go_upto_block 0 with(go_at_call 84;refine hc.mono ?_;rintro e w1 ⟨rfl,ho⟩);have HJ:=hd (HI.out _ ho);clear HI hc ho;go_wp2_with fail;go_loopg [5,9,10,11,12,13,14,15,16,17,18,19,20,21,22,23] n (fun g v5 _ _ _ _ _ _ _ _ _ _ _ _ _ _ _ wr=>∃(l:List Nat) (len:Nat) (a1:Option Addr) (c1:Nat) (s':St),v5=.slice a1 len c1/\len+g=n/\Hid (l.length=len)/\Hid (O_ w r a cap bs P p n wr a1 c1 l s'))
 case atStart=>exact ⟨[],0,none,0,s1,rfl,by omega,hd rfl,HJ⟩
 case round=>
  clear HJ;obtain ⟨l,len,a1,c1,s',rfl,hlen,HL,HW⟩:=hrel;by_cases h0:gk=0
  ·subst h0;have dH:decide ((len:Int)<(n:Int))=false:=by simp;omega
   have tQ:(n:Int)<=(len:Int):=by omega
   have HE:Hid (∃l',Ending.returned (.slice a1 len c1)=.returned (.slice a1 (List.length l') c1)/\Ob w r a cap bs P p a1 c1 l' wr):=hd (by
    refine ⟨l,by rw [HL.out],s',HW.out.1, ?_,by have:=HL.out;omega⟩;have:=HW.out.2;rw [show n-l.length=0 by have:=HL.out;omega]at this
    exact this)
   clear HW HL;go_wp2_with fail;go_ret;obtain ⟨l',h1,h2⟩:=HE.out;exact ⟨a1,c1,l',h1,h2⟩
  ·have af:(len:Int)<(n:Int):=by omega
   by_cases hz:s'.e=0
   ·have hf:=i_ HW.out.1.out.1 false (by simp [hz]);have Ae:=T7 HW.out.1.out.1 P hP
    have HP:Hid (∀W,aN wr r a cap bs (cN bs 1 (fun n=>bf 0 ((P:Int)-1) n) s').2 W->∃a' c' w',(∀ty,(Builtin.append_ #[23,23] ty #[.slice a1 len c1,.slice (some ⟨W.heap.size,0,none⟩) 1 1]).run prog (W.alloc (.cells #[.int .i64 ((cN bs 1 (fun n=>bf 0 ((P:Int)-1) n) s').1:Nat)] 3))=.ok (.slice a' (len+1) c') w')/\∃uW,O_ w r a cap bs P p n w' a' c' (l++[(cN bs 1 (fun n=>bf 0 ((P:Int)-1) n) s').1]) uW):=hd (by
     intro W o;have h1:=HW.out.1.step H.out.lt o;rw [HL.out]at h1;obtain ⟨a',c',w',k1,k2⟩:=h1.push H.out aaV FN rfl (by omega) (by omega) [.int .i64 ((cN bs 1 (fun n=>bf 0 ((P:Int)-1) n) s').1:Nat)] rfl (natC_one [(cN bs 1 (fun n=>bf 0 ((P:Int)-1) n) s').1]);refine ⟨a',c',w',k1,(cN bs 1 (fun n=>bf 0 ((P:Int)-1) n) s').2, ?_, ?_⟩
     ·rw [<-natC_app,show(l++[(cN bs 1 (fun n=>bf 0 ((P:Int)-1) n) s').1]).length=len+1 by simp [HL.out]];exact k2
     ·have aJ:=HW.out.2;have Ay:=HL.out;rw [show n-l.length=(n-(l.length+1))+1 by omega]at aJ;rw [show n-(l++[(cN bs 1 (fun n=>bf 0 ((P:Int)-1) n) s').1]).length=n-(l.length+1) by simp]
      exact cL.uh aJ)
    clear HW h0 hz;generalize (cN bs 1 (fun n=>bf 0 ((P:Int)-1) n) s').1=v at*
    generalize (cN bs 1 (fun n=>bf 0 ((P:Int)-1) n) s').2=s2 at*
    go_wp2_with (first|(go_at_call 80;refine hf.mono ?_;rintro e w1 ⟨rfl,rfl⟩)|(go_at_call 85;refine Ae.mono ?_;rintro e w2 ⟨rfl,ho⟩;obtain ⟨a',c',w3,aO,uW,hI⟩:=HP.out w2 ho;replace aO:=hd aO)|(at_builtin;refine dZ rfl _ _ _ rfl _ _ _ _ rfl rfl aO.out ?_;clear aO));go_roundg (gk-1)
    case rel=>exact ⟨l++[v],len+1,a',c',uW,rfl,by omega,hd (by rw [<-HL.out];simp),hI⟩
    case measure=>omega
   ·have hf:=i_ HW.out.1.out.1 true (by simp [hz])
    have HE:Hid (∃l',Ending.returned (.slice a1 len c1)=.returned (.slice a1 (List.length l') c1)/\Ob w r a cap bs P p a1 c1 l' wr):=hd (by
     refine ⟨l,by rw [HL.out],s',HW.out.1, ?_,by have:=HL.out;omega⟩
     exact .inr ⟨hz,HW.out.2.bad hz⟩)
    clear HW HL h0 hz;go_wp2_with (go_at_call 80;refine hf.mono ?_;rintro e w1 ⟨rfl,rfl⟩);go_ret;obtain ⟨l',h1,h2⟩:=HE.out;exact ⟨a1,c1,l',h1,h2⟩
end
end Go.Proofs.YthopnfbjiifhhaaGreatDoor
