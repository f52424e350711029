/- Cores and wants as values and in memory. -/
import Derived.Test.YthopnfbjiifhhaaGreatDoorGAa
import Derived.Test.YthopnfbjiifhhaaGreatDoorGCb
set_option maxHeartbeats 2000000
set_option maxRecDepth 100000
namespace Go.Proofs.YthopnfbjiifhhaaGreatDoor.eZ
open Go.RowKit Go.Proofs.Tryz
structure Core where
 pc:Int
 r:Nat->Int
def cT(c:Core):Array Value:=#[.int .i64 c.pc,.int .i64 (c.r 0),.int .i64 (c.r 1),.int .i64 (c.r 2),.int .i64 (c.r 3),.int .i64 (c.r 4),.int .i64 (c.r 5),.int .i64 (c.r 6),.int .i64 (c.r 7)]
def fH(c:Core):Value:=.agg (cT c)
def tK(k t v:Int):Array Value:=#[.int .i64 k,.int .i64 t,.int .i64 v]
def zT(k t v:Int):Value:=.agg (tK k t v)
def Core.next(c:Core):Core:={c with pc:=wrap64 (c.pc+1)}
def Core.set(c:Core)(j:Nat)(v:Int):Core:={c with r:=fun i=>if i=j then v else c.r i}
theorem heap_set_self{w:World}{g o:Nat}{cs:Array Value}{t:TypeId}(h:w.heap[g]?=some (.cells cs t (0,0)))(v:Value):(w.setCell ⟨g,o,none⟩ v).heap[g]?=some (.cells (cs.setIfInBounds o v) t (0,0)):=
 aax w g o cs t v h
structure jI(b:Nat)(w w':World):Prop where
 os:w'.os=w.os
 tape:w'.tape=w.tape
 output:w'.output=w.output
 size:w'.heap.size=w.heap.size
 block:∀k,k≠b->w'.heap[k]?=w.heap[k]?
theorem jI.setCell(w:World)(b o:Nat)(v:Value):jI b w (w.setCell ⟨b,o,none⟩ v):=⟨rfl,rfl,rfl,by simp [World.setCell],fun k hk=>aay _ _ _ _ hk⟩
theorem jI.trans{b:Nat}{w1 w2 w3:World}(h:jI b w1 w2)(k:jI b w2 w3):jI b w1 w3:=
 ⟨k.os.trans h.os,k.tape.trans h.tape,k.output.trans h.output,k.size.trans h.size,fun i hi=>(k.block i hi).trans (h.block i hi)⟩
theorem jI.below{b B:Nat}{a w w':World}(h:jI b w w')(hb:Below B a w)(hB:B<=b):Below B a w':=
 ⟨h.os.trans hb.os,h.tape.trans hb.tape,h.output.trans hb.output,by rw [h.size];exact hb.size,fun k hk=>(h.block k (by omega)).trans (hb.block k hk)⟩
structure bU(w:World)(t:TypeId)(b:Nat)(cs:Array Value):Prop where
 obj:w.heap[b]?=some (.cells cs t (0,0))
section
variable{w w':World} {t:TypeId} {b:Nat} {cs:Array Value}
theorem bU.cell(h:bU w t b cs)(i:Nat):w.cell? ⟨b,i,none⟩=cs[i]?:=by rw [aaa _ _ _ _ _ _ h.obj]
theorem bU.fr(h:bU w t b cs)(i:Nat):w.frozen? ⟨b,i,none⟩=false:=by simp [World.frozen?,h.obj]
theorem bU.lt(h:bU w t b cs):b<w.heap.size:=(aab.1 h.obj).1
theorem bU.au(h:bU w t b cs)(hb:Below w.heap.size w w'):bU w' t b cs:=⟨by rw [hb.block b h.lt];exact h.obj⟩
theorem bU.AR{g:Nat}(h:bU w t b cs)(hb:jI g w w')(hg:b≠g):bU w' t b cs:=⟨by rw [hb.block b hg];exact h.obj⟩
theorem bU.put(h:bU w t b cs)(o:Nat)(v:Value):bU (w.setCell ⟨b,o,none⟩ v) t b (cs.setIfInBounds o v):=⟨heap_set_self h.obj v⟩
theorem bU.new(w:World)(t:TypeId)(cs:Array Value):bU (w.alloc (.cells cs t)) t w.heap.size cs:=⟨aae _ _⟩
end
theorem core_at(c:Core):∀j,j<8->(cT c)[1+j]?=some (.int .i64 (c.r j)):=by
 intro j hj;have h:j=0\/j=1\/j=2\/j=3\/j=4\/j=5\/j=6\/j=7:=by omega
 rcases h with rfl|rfl|rfl|rfl|rfl|rfl|rfl|rfl<;>rfl
theorem core_pc(c:Core)(p:Int):(cT c).setIfInBounds 0 (.int .i64 p)=cT {c with pc:=p}:=rfl
section
variable{w w':World} {t:TypeId} {b:Nat} {c:Core}
theorem bU.pc(h:bU w t b (cT c)):w.cell? ⟨b,0,none⟩=some (.int .i64 c.pc):=h.cell 0
theorem bU.Qi(h:bU w t b (cT c))(j:Nat)(hj:j<8):w.cell? ⟨b,1+j,none⟩=some (.int .i64 (c.r j)):=by rw [h.cell,core_at c j hj]
theorem bU.setPc(h:bU w t b (cT c))(p:Int):bU (w.setCell ⟨b,0,none⟩ (.int .i64 p)) t b (cT {c with pc:=p}):=by
 rw [<-core_pc c p];exact h.put _ _
theorem bU.cs(h:bU w t b (cT c)):w.cell? ⟨b,0,none⟩=some (.int .i64 c.pc)/\w.cell? ⟨b,1,none⟩=some (.int .i64 (c.r 0))/\w.cell? ⟨b,2,none⟩=some (.int .i64 (c.r 1))/\w.cell? ⟨b,3,none⟩=some (.int .i64 (c.r 2))/\
 w.cell? ⟨b,4,none⟩=some (.int .i64 (c.r 3))/\w.cell? ⟨b,5,none⟩=some (.int .i64 (c.r 4))/\w.cell? ⟨b,6,none⟩=some (.int .i64 (c.r 5))/\w.cell? ⟨b,7,none⟩=some (.int .i64 (c.r 6))/\w.cell? ⟨b,8,none⟩=some (.int .i64 (c.r 7)):=
 ⟨h.cell 0,h.cell 1,h.cell 2,h.cell 3,h.cell 4,h.cell 5,h.cell 6,h.cell 7,h.cell 8⟩
end
theorem DQ(c:Core)(w:World):
 Calls prog 182 #[fH c] w fun e w'=>e=.returned (fH c.next)/\Below w.heap.size w w':=by
 unfold fH cT Core.next;go_enter func182,ntmps182
 go_wp2
 refine aar (by simp [results,results182,go_sem]) rfl ⟨rfl, ?_⟩;exact ((aak _ w).alloc (aag _) _).alloc (by simp) _
def Core.lay(c:Core)(r v:Int):Core:=if 0<=r/\r<8 then c.set r.toNat v else c
theorem Nk(c:Core)(r v:Int)(w:World):
 Calls prog 229 #[fH c,.int .i64 r,.int .i64 v] w fun e w'=>e=.returned (fH (c.lay r v))/\Below w.heap.size w w':=by
 have hB:∀o1 o2:Obj,Below w.heap.size w ((w.alloc o1).alloc o2):=fun o1 o2=>((aak _ w).alloc (aag _) _).alloc (by simp) _
 unfold Core.lay;by_cases h1:0<=r
 ·by_cases h2:r<8
  ·rw [aah ⟨h1,h2⟩];obtain ⟨V,hV⟩:=Haa (fH (c.set r.toNat v));rw [hV.out];have h:r=0\/r=1\/r=2\/r=3\/r=4\/r=5\/r=6\/r=7:=by omega
   rcases h with rfl|rfl|rfl|rfl|rfl|rfl|rfl|rfl;all_goals
    clear h1 h2;unfold fH cT;go_enter func229,ntmps229
    go_wp2
    refine aar (v:=V) (by rw [<-hV.out];simp [results,results229,go_sem,fH,cT,Core.set]) rfl ⟨rfl, ?_⟩;exact hB _ _
  ·rw [aaf (by omega)];have d2:decide (r<8)=false:=aaC h2;unfold fH cT;go_enter func229,ntmps229
   go_wp2
   refine aar (by simp [results,results229,go_sem]) rfl ⟨rfl, ?_⟩;exact hB _ _
 ·rw [aaf (by omega)];have d1:decide (0<=r)=false:=aaC h1;unfold fH cT;go_enter func229,ntmps229
  go_wp2
  refine aar (by simp [results,results229,go_sem]) rfl ⟨rfl, ?_⟩;exact hB _ _
theorem F9(w:World)(o1 o2:Obj):Below w.heap.size w ((w.alloc o1).alloc o2):=((aak _ w).alloc (aag _) _).alloc (by simp) _
theorem BJ(w:World)(o:Obj):Below w.heap.size w (w.alloc o):=(aak _ w).alloc (aag _) o
theorem MU(w:World)(o1 o2 o3:Obj):Below w.heap.size w (((w.alloc o1).alloc o2).alloc o3):=(F9 w o1 o2).alloc (by simp;omega) _
def J8:Value:=.agg #[.int .i64 0,.int .i64 0,.int .i64 0,.int .i64 0,.int .i64 0]
theorem Tb(c:Core)(a:Option Addr)(n cap:Nat)(h:¬(0<=c.pc/\c.pc<n))(w:World):
 Calls prog 183 #[fH c,.slice a n cap] w fun e w'=>e=.returned (.tuple #[J8,.bool false])/\Below w.heap.size w w':=by
 have hB:=F9 w;unfold fH cT J8;by_cases h1:c.pc<0
 ·go_enter func183,ntmps183
  go_wp2
  refine aar (by simp [results,results183,go_sem]) rfl ⟨rfl, ?_⟩;exact hB _ _
 ·have d1:decide (c.pc<0)=false:=aaC h1;have h2:(n:Int)<=c.pc:=by omega
  clear h;go_enter func183,ntmps183
  go_wp2
  refine aar (by simp [results,results183,go_sem]) rfl ⟨rfl, ?_⟩;exact hB _ _
theorem SA(c:Core)(a:Option Addr)(l:List Ins)(cap p:Nat)(hp:c.pc=(p:Int))(af:p<l.length)(w:World)(hP:oL w a l):
 Calls prog 183 #[fH c,.slice a l.length cap] w fun e w'=>e=.returned (.tuple #[dC (l.getD p default),.bool true])/\Below w.heap.size w w':=by
 have hB:=F9 w;obtain ⟨pc,r⟩:=c;simp only at hp;subst hp;have d1:decide ((p:Int)<0)=false:=aaC (by omega);have d2:decide ((l.length:Int)<=(p:Int))=false:=aaC (by omega);have fI:(p:Int)<(l.length:Int):=by omega
 obtain ⟨b,off,rfl,hx⟩:=hP p af;have hk:=fun o1 o2=>hx.kept (hB o1 o2)
 have k0:=fun o1 o2=>(hk o1 o2).c0
 have k1:=fun o1 o2=>(hk o1 o2).c1
 have k2:=fun o1 o2=>(hk o1 o2).c2
 have k3:=fun o1 o2=>(hk o1 o2).c3
 have k4:=fun o1 o2=>(hk o1 o2).c4
 generalize l.getD p default=x at*
 clear hx hP hk;unfold fH cT dC;go_enter func183,ntmps183
 go_wp2
 refine aar (by simp [results,results183,go_sem]) rfl ⟨rfl, ?_⟩;exact hB _ _
theorem stands_any(x:Ins)(n:Int)(w:World)(hF:bR w):
 Calls prog 184 #[dC x,.int .i64 n] w fun e w'=>e=.returned (.bool ((wrong x n 8).1==0))/\Below w.heap.size w w':=by
 have hb:=(aak _ w).alloc (aag _) (.cells #[.int .i64 x.op,.int .i64 x.a,.int .i64 x.b,.int .i64 x.c,.int .i64 x.dn] 35);have h:=MJ x n 8 _ (hF.kept hb);have HB:=hd hb;generalize (wrong x n 8).1=E at*
 clear hF hb;unfold dC at*
 go_enter func184,ntmps184;go_wp2_with (go_at_call 78;refine h.mono ?_;rintro e w1 ⟨rfl,b1⟩);go_ret;exact ⟨rfl,HB.out.trans (b1.mono HB.out.size)⟩
def Gm(c:Core)(op a b d dn:Int):Int×Int×Int:=
 if op=0 then(1,0,0)else
 if op=24 then(2,c.r b.toNat,c.r d.toNat)else
 if op=25 then(3,0,0)else
 if op=26 then(4,0,0)else
 if op=27 then(5,0,c.r a.toNat)else
 if op=28 then(6,0,c.r a.toNat)else
 if op=29 then(7,dn,0)else
 if op=30 then(8,dn,0)else
 if op=31 then(9,0,c.r a.toNat)else(0,0,0)
def Gn(t:Int×Int×Int):Value:=zT t.1 t.2.1 t.2.2
theorem wanted_any(c:Core)(dn:Int)(a b d:Nat)(w:World):
 Calls prog 185 #[fH c,dC ⟨22,a,b,d,dn⟩] w fun e w'=>e=.returned (Gn (Gm c 22 a b d dn))/\Below w.heap.size w w':=by
 have hB:=MU w;have e:Gm c 22 a b d dn=(0,0,0):=by simp [Gm]
 rw [e];unfold fH cT dC Gn zT tK;clear e;go_enter func185,ntmps185
 go_wp2
 refine aar (by simp [results,results185,go_sem]) rfl ⟨rfl, ?_⟩;exact hB _ _ _
def iF:Array Value:=#[.int .i64 0,.int .i64 0,.int .i64 0,.int .i64 0,.int .i64 0,.int .i64 0,.int .i64 0,.int .i64 0,.int .i64 0]
def nA:Array Value:=#[.int .i64 0,.int .i64 0,.int .i64 0]
theorem step_begin(w:World)(c:Core)(tc tw:TypeId):
 bU (((w.alloc (.cells (cT c) tc)).alloc (.cells iF tc)).alloc (.cells nA tw)) tc w.heap.size (cT c)/\
 bU (((w.alloc (.cells (cT c) tc)).alloc (.cells iF tc)).alloc (.cells nA tw)) tc (w.heap.size+1) iF/\
 bU (((w.alloc (.cells (cT c) tc)).alloc (.cells iF tc)).alloc (.cells nA tw)) tw (w.heap.size+1+1) nA:=by
 refine ⟨((bU.new w tc (cT c)).au (BJ _ _)).au (BJ _ _), ?_, ?_⟩
 ·have h:=(bU.new (w.alloc (.cells (cT c) tc)) tc iF).au (BJ _ (.cells nA tw));simpa using h
 ·have h:=bU.new ((w.alloc (.cells (cT c) tc)).alloc (.cells iF tc)) tw nA;simpa using h
def tU(x:Ins):Array Value:=#[.int .i64 x.op,.int .i64 x.a,.int .i64 x.b,.int .i64 x.c,.int .i64 x.dn]
structure vz(w W:World)(tc tw:TypeId)(g:Nat)(c:Core)(z8 z9:Array Value)(x:Ins):Prop where
 x4:bU W tc w.heap.size (cT c)
 x8:bU W tc (w.heap.size+1) z8
 x9:bU W tw (w.heap.size+1+1) z9
 rl:bU W 35 g (tU x)
 g3:w.heap.size+1+1<g
 au:Below w.heap.size w W
 Ey:bR W
variable{w W W':World}{tc tw t:TypeId}{c:Core}{g b:Nat}{x:Ins}{k u v:Int}{v0 v1 v2:Value}
theorem vz.mk'{w1:World}(x:Ins)(hF:bR w)(b1:Below (((w.alloc (.cells (cT c) tc)).alloc (.cells iF tc)).alloc (.cells nA tw)).heap.size (((w.alloc (.cells (cT c) tc)).alloc (.cells iF tc)).alloc (.cells nA tw)) w1):
 vz w (w1.alloc (.cells (tU x) 35)) tc tw w1.heap.size c iF nA x:=by
 obtain ⟨h4,h8,h9⟩:=step_begin w c tc tw;have ai:=MU w (.cells (cT c) tc) (.cells iF tc) (.cells nA tw);have aH:=ai.trans (b1.mono ai.size);have aI:=aH.alloc aH.size (.cells (tU x) 35);have ha:=BJ w1 (.cells (tU x) 35);exact ⟨(h4.au b1).au ha,(h8.au b1).au ha,(h9.au b1).au ha,bU.new _ _ _,by have:=b1.size;simp at this;omega,aI,hF.kept aI⟩
theorem vz.kept{z8 z9:Array Value}(h:vz w W tc tw g c z8 z9 x)(hb:Below W.heap.size W W'):vz w W' tc tw g c z8 z9 x:=
 ⟨h.x4.au hb,h.x8.au hb,h.x9.au hb,h.rl.au hb,h.g3,h.au.trans (hb.mono h.au.size),h.Ey.kept hb⟩
theorem bU.cz(h:bU w t b iF):w.cell? ⟨b,0,none⟩=some (.int .i64 0)/\w.cell? ⟨b,1,none⟩=some (.int .i64 0)/\w.cell? ⟨b,2,none⟩=some (.int .i64 0)/\w.cell? ⟨b,3,none⟩=some (.int .i64 0)/\
 w.cell? ⟨b,4,none⟩=some (.int .i64 0)/\w.cell? ⟨b,5,none⟩=some (.int .i64 0)/\w.cell? ⟨b,6,none⟩=some (.int .i64 0)/\w.cell? ⟨b,7,none⟩=some (.int .i64 0)/\w.cell? ⟨b,8,none⟩=some (.int .i64 0):=
 ⟨h.cell 0,h.cell 1,h.cell 2,h.cell 3,h.cell 4,h.cell 5,h.cell 6,h.cell 7,h.cell 8⟩
theorem bU.cw(h:bU w t b (tK k u v)):w.cell? ⟨b,0,none⟩=some (.int .i64 k)/\w.cell? ⟨b,1,none⟩=some (.int .i64 u)/\w.cell? ⟨b,2,none⟩=some (.int .i64 v):=
 ⟨h.cell 0,h.cell 1,h.cell 2⟩
theorem bU.ci(h:bU w t b (tU x)):w.cell? ⟨b,0,none⟩=some (.int .i64 x.op)/\w.cell? ⟨b,1,none⟩=some (.int .i64 x.a)/\w.cell? ⟨b,2,none⟩=some (.int .i64 x.b)/\w.cell? ⟨b,3,none⟩=some (.int .i64 x.c)/\w.cell? ⟨b,4,none⟩=some (.int .i64 x.dn):=
 ⟨h.cell 0,h.cell 1,h.cell 2,h.cell 3,h.cell 4⟩
def gH(W:World)(b:Nat)(c:Core):World:=
 ((((((((W.setCell ⟨b,0,none⟩ (.int .i64 c.pc)).setCell ⟨b,1,none⟩ (.int .i64 (c.r 0))).setCell ⟨b,2,none⟩ (.int .i64 (c.r 1))).setCell ⟨b,3,none⟩ (.int .i64 (c.r 2))).setCell ⟨b,4,none⟩ (.int .i64 (c.r 3))).setCell ⟨b,5,none⟩ (.int .i64 (c.r 4))).setCell ⟨b,6,none⟩ (.int .i64 (c.r 5))).setCell ⟨b,7,none⟩ (.int .i64 (c.r 6))).setCell ⟨b,8,none⟩ (.int .i64 (c.r 7))
def uP(W:World)(b:Nat)(k u v:Int):World:=((W.setCell ⟨b,0,none⟩ (.int .i64 k)).setCell ⟨b,1,none⟩ (.int .i64 u)).setCell ⟨b,2,none⟩ (.int .i64 v)
theorem Jy(W:World)(b:Nat)(c:Core):jI b W (gH W b c):=
 ((((((((jI.setCell _ _ _ _).trans (jI.setCell _ _ _ _)).trans (jI.setCell _ _ _ _)).trans (jI.setCell _ _ _ _)).trans (jI.setCell _ _ _ _)).trans (jI.setCell _ _ _ _)).trans (jI.setCell _ _ _ _)).trans (jI.setCell _ _ _ _)).trans (jI.setCell _ _ _ _)
theorem Uh(W:World)(b:Nat)(k u v:Int):jI b W (uP W b k u v):=((jI.setCell _ _ _ _).trans (jI.setCell _ _ _ _)).trans (jI.setCell _ _ _ _)
theorem nine_set(v0 v1 v2 v3 v4 v5 v6 v7 v8 u0 u1 u2 u3 u4 u5 u6 u7 u8:Value):
 ((((((((#[v0,v1,v2,v3,v4,v5,v6,v7,v8].setIfInBounds 0 u0).setIfInBounds 1 u1).setIfInBounds 2 u2).setIfInBounds 3 u3).setIfInBounds 4 u4).setIfInBounds 5 u5).setIfInBounds 6 u6).setIfInBounds 7 u7).setIfInBounds 8 u8=#[u0,u1,u2,u3,u4,u5,u6,u7,u8]:=by simp
theorem bU.nine{v3 v4 v5 v6 v7 v8:Value}(h:bU w t b #[v0,v1,v2,v3,v4,v5,v6,v7,v8])(c:Core):bU (gH w b c) t b (cT c):=by
 have h1:=((((((((h.put 0 (.int .i64 c.pc)).put 1 (.int .i64 (c.r 0))).put 2 (.int .i64 (c.r 1))).put 3 (.int .i64 (c.r 2))).put 4 (.int .i64 (c.r 3))).put 5 (.int .i64 (c.r 4))).put 6 (.int .i64 (c.r 5))).put 7 (.int .i64 (c.r 6))).put 8 (.int .i64 (c.r 7));rw [nine_set]at h1;exact h1
theorem bU.three(h:bU w t b #[v0,v1,v2])(k u v:Int):bU (uP w b k u v) t b (tK k u v):=by
 have h1:=((h.put 0 (.int .i64 k)).put 1 (.int .i64 u)).put 2 (.int .i64 v);exact h1
theorem vz.ends(h:vz w W tc tw g c iF nA x)(d:Core)(k u v:Int):
 bU (uP (gH W (w.heap.size+1) d) (w.heap.size+1+1) k u v) tc (w.heap.size+1) (cT d)/\bU (uP (gH W (w.heap.size+1) d) (w.heap.size+1+1) k u v) tw (w.heap.size+1+1) (tK k u v)/\
  Below w.heap.size w (uP (gH W (w.heap.size+1) d) (w.heap.size+1+1) k u v):=
 ⟨(h.x8.nine d).AR (Uh _ _ _ _ _) (by omega),(h.x9.AR (Jy _ _ d) (by omega)).three k u v,
  (Uh _ _ _ _ _).below ((Jy _ _ d).below h.au (by omega)) (by omega)⟩
structure Ez(w W:World)(tc tw:TypeId)(g gw:Nat)(c:Core)(x:Ins)(k u v:Int):Prop where
 st:vz w W tc tw g c iF nA x
 KV:bU W tw gw (tK k u v)
 n10:gw≠g
 g12:w.heap.size+1+1<gw
theorem Ez.mk'{w2 w3:World}(h:vz w w2 tc tw g c iF nA x)(b3:Below w2.heap.size w2 w3)(k u v:Int):
 Ez w (w3.alloc (.cells (tK k u v) tw)) tc tw g w3.heap.size c x k u v:=by
 have h3:=h.kept b3;exact ⟨h3.kept (BJ _ _),bU.new _ _ _,by have:=h3.rl.lt;omega,by have:=h3.rl.lt;have:=h3.g3;omega⟩
theorem Ez.core{gw:Nat}{d:Core}(h:Ez w W tc tw g gw c x k u v)(ho:jI w.heap.size W W')(hx:bU W' tc w.heap.size (cT d))(hF:1<w.heap.size):Ez w W' tc tw g gw d x k u v:=
 ⟨⟨hx,h.st.x8.AR ho (by omega),h.st.x9.AR ho (by omega),h.st.rl.AR ho (by have:=h.st.g3;omega),h.st.g3,ho.below h.st.au (aag _),fun i hi=>by
  have:=h.st.Ey i hi
  rw [aa1 (w:=W) (ho.block 1 (by omega))]
  exact this⟩,h.KV.AR ho (by have:=h.g12;omega),h.n10,h.g12⟩
theorem step_jump(c:Core)(ad:Option Addr)(l:List Ins)(cap p:Nat)(tick self:Int)(hp:c.pc=(p:Int))(af:p<l.length)(w:World)(hP:oL w ad l)(hF:bR w)(op dn:Int)(a b d:Nat)(ha:a<8)(hb:b<8)(qT:d<8)
 (hx:l.getD p default=⟨op,a,b,d,dn⟩)(j7:(wrong (l.getD p default) l.length 8).1=0)(VY:Gm c op a b d dn=(0,0,0))(hop:op=22):
 Calls prog 152 #[fH c,.slice ad l.length cap,.int .i64 tick,.int .i64 self] w fun e w'=>e=.returned (.tuple #[fH (Core.mk dn c.r),zT 0 0 0])/\Below w.heap.size w w':=by
 subst hop;have HW0:Hid (1<w.heap.size):=hd (aaj w _ (hF 0 (by decide)));obtain ⟨D,hD⟩:=Haa (Core.mk dn c.r);rw [hD.out];have HA:=hd ha;have EA:=hd hb;have Yb:=hd qT;have ai:=MU w (.cells (cT c) 170) (.cells iF 170) (.cells nA 262);have nG:=SA c ad l cap p hp af _ (hP.kept ai);have HS:=hd (fun x w1=>vz.mk' (w1:=w1) (tc:=170) (tw:=262) (c:=c) x hF);have aJ:=stands_any (l.getD p default) l.length;rw [show((wrong (l.getD p default) l.length 8).1==0)=true from by simpa using j7]at aJ;have cW:=wanted_any c dn a b d;rw [hx]at aJ nG;rw [VY]at cW;clear hx j7;generalize l.length=n at*
 clear hP ai hF af hp VY;unfold Gn zT tK at cW;simp only at cW;unfold fH zT tK;unfold dC at*
 unfold fH at nG cW;unfold cT iF nA at*
 go_enter func152,ntmps152;go_wp2_with fail;go_step3;go_upto_region 2 with(first|(go_at_call 183;refine nG.mono ?_;rintro e w1 ⟨rfl,b1⟩));replace HS:=hd (HS.out ⟨22,a,b,d,dn⟩ w1 b1);clear nG b1;unfold tU at HS;obtain ⟨g,hg⟩:=Haa w1.heap.size;obtain ⟨W1,bS⟩:=Haa (w1.alloc (.cells #[.int .i64 22,.int .i64 a,.int .i64 b,.int .i64 d,.int .i64 dn] 35));simp only at HS;rw [bS.out]at HS⊢;rw [hg.out]at HS⊢;clear bS hg;replace aJ:=aJ W1 HS.out.Ey;obtain ⟨i0,i1,i2,i3,i4⟩:=HS.out.rl.ci;go_upto_region 4 with(go_at_call 184;refine aJ.mono ?_;rintro e w2 ⟨rfl,b2⟩);replace HS:=hd (HS.out.kept b2);clear aJ b2 i0 i1 i2 i3 i4;obtain ⟨i0,i1,i2,i3,i4⟩:=HS.out.rl.ci;obtain ⟨c0,c1,c2,c3,c4,c5,c6,c7,c8⟩:=HS.out.x4.cs;replace cW:=cW w2;go_wp2_with (go_at_call 185;refine cW.mono ?_;rintro e w3 ⟨rfl,b3⟩);clear cW c0 c1 c2 c3 c4 c5 c6 c7 c8 i0 i1 i2 i3 i4;replace HS:=hd (Ez.mk' HS.out b3 0 0 0);clear b3;unfold tK at HS;obtain ⟨gw,nU⟩:=Haa w3.heap.size;obtain ⟨W3,kK⟩:=Haa (w3.alloc (.cells #[.int .i64 0,.int .i64 0,.int .i64 0] 262));rw [kK.out]at HS⊢;rw [nU.out]at HS⊢;clear kK nU;obtain ⟨v0,v1,v2⟩:=HS.out.KV.cw;obtain ⟨i0,i1,i2,i3,i4⟩:=HS.out.st.rl.ci;have ra:=HS.out.st.x4.Qi a HA.out;have rb:=HS.out.st.x4.Qi b EA.out;have rd:=HS.out.st.x4.Qi d Yb.out;have rp:=HS.out.st.x4.pc;have f4:=HS.out.st.x4.fr;have la:(a:Int)<8:=by have:=HA.out;omega
 have lb:(b:Int)<8:=by have:=EA.out;omega
 have ld:(d:Int)<8:=by have:=Yb.out;omega
 clear ha hb qT;go_step3;go_upto_region 26 with fail;clear i0 i1 i2 i3 i4 ra rb rd rp f4 la lb ld v0 v1 v2;obtain ⟨W4,mN⟩:=Haa (W3.setCell ⟨w.heap.size,0,none⟩ (.int .i64 dn));have AU:=hd (HS.out.core (jI.setCell _ _ _ _) (HS.out.st.x4.setPc dn) HW0.out);rw [mN.out,hD.out]at AU;rw [mN.out];clear HS mN;have HS:=AU;clear AU;have HN1:¬gw=w.heap.size+1:=by have:=HS.out.g12;omega
 have fM:¬w.heap.size+1=gw:=by omega
 obtain ⟨c0,c1,c2,c3,c4,c5,c6,c7,c8⟩:=HS.out.st.x4.cs;obtain ⟨z0,z1,z2,z3,z4,z5,z6,z7,z8⟩:=HS.out.st.x8.cz;obtain ⟨y0,y1,y2⟩:=bU.cw (k:=0) (u:=0) (v:=0) HS.out.st.x9;obtain ⟨v0,v1,v2⟩:=HS.out.KV.cw;have f8:=HS.out.st.x8.fr;have f9:=HS.out.st.x9.fr;have HE:=hd (HS.out.st.ends D 0 0 0);clear HS;go_region
 go_wp2
 unfold gH uP at HE;try rw [Exit.noGoto_ret]
 clear c0 c1 c2 c3 c4 c5 c6 c7 c8 z0 z1 z2 z3 z4 z5 z6 z7 z8 y0 y1 y2 v0 v1 v2 f8 f9 HN1 fM;obtain ⟨R8,R9,RB⟩:=HE.out;obtain ⟨c0,c1,c2,c3,c4,c5,c6,c7,c8⟩:=R8.cs;obtain ⟨y0,y1,y2⟩:=R9.cw;refine aar ?_ rfl ⟨rfl,RB.drew⟩;clear R8 R9 RB;generalize World.setCell _ _ _=Wf at*
 simp [results,results152,go_sem,c0,c1,c2,c3,c4,c5,c6,c7,c8,y0,y1,y2]
theorem step_out(c:Core)(a:Option Addr)(n cap:Nat)(tick self:Int)(xY:¬(0<=c.pc/\c.pc<n))(w:World)(hF:bR w):
 Calls prog 152 #[fH c,.slice a n cap,.int .i64 tick,.int .i64 self] w fun e w'=>e=.returned (.tuple #[fH c,zT 1 0 0])/\Below w.heap.size w w':=by
 have nG:=Tb c a n cap xY (((w.alloc (.cells (cT c) 170)).alloc (.cells iF 170)).alloc (.cells nA 262));have HS:=hd (fun w1=>vz.mk' (w1:=w1) (tc:=170) (tw:=262) (c:=c) ⟨0,0,0,0,0⟩ hF);clear xY hF;unfold fH zT tK;unfold J8 at*
 unfold fH at nG;unfold cT iF nA at*
 go_enter func152,ntmps152;go_wp2_with fail;go_step3;go_upto_region 2 with(first|(go_at_call 183;refine nG.mono ?_;rintro e w1 ⟨rfl,b1⟩));replace HS:=hd (HS.out w1 b1);clear nG b1;unfold tU at HS;simp only at HS;obtain ⟨g,hg⟩:=Haa w1.heap.size;obtain ⟨W1,bS⟩:=Haa (w1.alloc (.cells #[.int .i64 0,.int .i64 0,.int .i64 0,.int .i64 0,.int .i64 0] 35));rw [bS.out]at HS⊢;rw [hg.out]at HS⊢;clear bS hg;obtain ⟨c0,c1,c2,c3,c4,c5,c6,c7,c8⟩:=HS.out.x4.cs;obtain ⟨z0,z1,z2,z3,z4,z5,z6,z7,z8⟩:=HS.out.x8.cz;obtain ⟨y0,y1,y2⟩:=bU.cw (k:=0) (u:=0) (v:=0) HS.out.x9;have f8:=HS.out.x8.fr;have f9:=HS.out.x9.fr;have HE:=hd (HS.out.ends c 1 0 0);clear HS
 go_wp2
 unfold gH uP at HE;rw [Exit.noGoto_ret];clear c0 c1 c2 c3 c4 c5 c6 c7 c8 z0 z1 z2 z3 z4 z5 z6 z7 z8 y0 y1 y2 f8 f9;obtain ⟨R8,R9,RB⟩:=HE.out;obtain ⟨c0,c1,c2,c3,c4,c5,c6,c7,c8⟩:=R8.cs;obtain ⟨y0,y1,y2⟩:=R9.cw;refine aar ?_ rfl ⟨rfl,RB⟩;clear R8 R9 RB;generalize World.setCell _ _ _=Wf at*
 simp [results,results152,go_sem,c0,c1,c2,c3,c4,c5,c6,c7,c8,y0,y1,y2]
def yH(l:List Ins):Prop:=l=[]\/l=[⟨22,0,0,0,0⟩]
def uO(c:Core)(l:List Ins)(_ _:Int):Core×(Int×Int×Int):=if 0<=c.pc/\c.pc<l.length then(⟨0,c.r⟩,(0,0,0))else(c,(1,0,0))
theorem step_two(c:Core)(l:List Ins)(t s:Int):(uO c l t s).2.1=0\/(uO c l t s).2.1=1:=by
 unfold uO;split
 ·exact .inl rfl
 ·exact .inr rfl
theorem step_any(c:Core)(ad:Option Addr)(l:List Ins)(cap:Nat)(tick self:Int)(w:World)(hP:oL w ad l)(hF:bR w)(hJ:yH l):
 Calls prog 152 #[fH c,.slice ad l.length cap,.int .i64 tick,.int .i64 self] w fun e w'=>e=.returned (.tuple #[fH (uO c l tick self).1,Gn (uO c l tick self).2])/\Below w.heap.size w w':=by
 unfold uO;by_cases h1:0<=c.pc/\c.pc<l.length
 ·rw [aah h1];rcases hJ with rfl|rfl
  ·have:=h1.1;have:=h1.2;simp at this;omega
  ·have hp:c.pc=((0:Nat):Int):=by
    have:=h1.1;have:=h1.2;simp at this;omega
   exact step_jump c ad [⟨22,0,0,0,0⟩] cap 0 tick self hp (by decide) w hP hF 22 0 0 0 0 (by omega) (by omega) (by omega) rfl (by decide) (by simp [Gm]) rfl
 ·rw [aaf h1];exact step_out c ad l.length cap tick self h1 w hF
section
variable{P:Program}
def waits(l:List Oper)(j i:Nat):Bool:=match l[j]? with|some o=>o.after.any (fun e=>Region.binds .any e&&e.on==i)|none=>false
theorem FC{l:List Oper}{j i:Nat}(h:waits l j i=true):∃o,l[j]?=some o/\∃e∈o.after,Region.binds .any e=true/\e.on=i:=by
 unfold waits at h;split at h
 ·next o ho=>
  obtain ⟨e,he,hb⟩:=Array.any_eq_true'.1 h;simp only [Bool.and_eq_true,beq_iff_eq]at hb;exact ⟨o,ho,e,he,hb.1,hb.2⟩
 ·cases h
def Cj(l:List Oper)(n:Nat):Bool:=
 l.all (fun o=>o.guard.isNone)&&(List.range n).all (fun i=>match l[i]? with|some o=>o.after.all (fun e=> !Region.binds .any e||decide (e.on<i))|none=>false)&&
 (match l[n]? with|some o=>o.after.all (fun e=> !Region.binds .any e||decide (e.on<n))&&(List.range n).all (fun i=>waits l n i||(List.range n).any (fun j=>decide (i<j)&&waits l j i))|none=>false)
theorem uL(L:Array Bool)(i:Nat)(d:Bool)(h:i<L.size):(L.push false).getD i d=L.getD i d:=by
 simp [Array.getD_eq_getD_getElem?,Array.getElem?_push,Nat.ne_of_lt h]
theorem BN(L:Array Bool)(i:Nat)(h:L.size<=i):(L.push false).getD i false=false/\L.getD i false=false:=by
 constructor
 ·simp only [Array.getD_eq_getD_getElem?,Array.getElem?_push];split
  ·rfl
  ·rw [Array.getElem?_eq_none h];rfl
 ·simp [Array.getD_eq_getD_getElem?,Array.getElem?_eq_none h]
theorem BU{L:Array Bool}{i:Nat}(h:i<L.size):L.getD i true=L.getD i false:=by simp [Array.getD_eq_getD_getElem?,h]
theorem xM{l:List Oper}{n:Nat}(L:Array Bool)(hL:L.size=n)(i:Nat)(hi:i<n):i∈Region.ready .any l.toArray (L.push false)↔i∈Region.ready .any (l.take n).toArray L:=by
 rw [aa_,aa_,uL _ _ _ (by omega)];have e:(l.take n).toArray[i]?=l.toArray[i]?:=by simp [hi]
 have k:∀j,(L.push false).getD j false=L.getD j false:=fun j=>by
  rcases aaU j L.size with h|h
  ·exact uL _ _ _ h
  ·rw [(BN L j h).1,(BN L j h).2]
 simp only [e,k]
structure pN(l:List Oper)(n:Nat)(o:Oper):Prop where
 len:l.length=n+1
 at':l[n]?=some o
 bare:∀x∈l,x.guard=none
 up:∀i x,i<n->l[i]?=some x->∀e∈x.after,Region.binds .any e=true->e.on<i
 low:∀e∈o.after,Region.binds .any e=true->e.on<n
 all:∀i,i<n->waits l n i=true\/∃j,i<j/\j<n/\waits l j i=true
theorem Oe{l:List Oper}{n:Nat}{o:Oper}(h:Cj l n=true)(hl:l.length=n+1)(ho:l[n]?=some o):pN l n o:=by
 unfold Cj at h;simp only [Bool.and_eq_true,ho]at h;obtain ⟨⟨h1,h2⟩,h3,h4⟩:=h;refine ⟨hl,ho,fun x hx=>by simpa using aa5.1 h1 x hx,fun i x hi hx e he hb=> ?_,fun e he hb=> ?_,fun i hi=> ?_⟩
 ·have h5:=aa5.1 h2 i (abv.2 hi);simp only [hx]at h5;have h6:=Array.all_eq_true'.1 h5 e he;simpa [hb]using h6
 ·have h6:=Array.all_eq_true'.1 h3 e he;simpa [hb]using h6
 ·have h5:=aa5.1 h4 i (abv.2 hi);simp only [Bool.or_eq_true]at h5;rcases h5 with h5|h5
  ·exact .inl h5
  ·obtain ⟨j,hj,hw⟩:=List.any_eq_true.1 h5;simp only [Bool.and_eq_true,decide_eq_true_eq]at hw;exact .inr ⟨j,hw.1,abv.1 hj,hw.2⟩
def uX(l:List Oper)(n:Nat)(L:Array Bool):Prop:=∀j x,j<n->l[j]?=some x->L.getD j false=true->∀e∈x.after,Region.binds .any e=true->L.getD e.on false=true
theorem FO{L:Array Bool}{i j:Nat}(h:L.getD j false=true):(L.setIfInBounds i true).getD j false=true:=by
 by_cases iI:i=j
 ·subst iI;have af:i<L.size:=by
   rcases aaU i L.size with h'|h'
   ·exact h'
   ·rw [(BN L i h').2]at h;cases h
  rw [aat,aaR af];rfl
 ·rw [aat,aaJ iI,<-aat];exact h
theorem uX.set{l:List Oper}{n:Nat}{L:Array Bool}(h:uX l n L){i:Nat}(hi:i∈Region.ready .any (l.take n).toArray L):uX l n (L.setIfInBounds i true):=by
 intro j x hj hx hl e he hb;by_cases iI:i=j
 ·subst iI;obtain ⟨_,y,hy,aY⟩:=aa_.1 hi;have e1:(l.take n).toArray[i]?=some x:=by simp [hj,hx]
  obtain rfl:x=y:=aau (e1.symm.trans hy);exact FO (aY e he hb)
 ·rw [aat,aaJ iI,<-aat]at hl;exact FO (h j x hj hx hl e he hb)
section
variable{l:List Oper} {n:Nat} {o:Oper}
theorem FD(h:pN l n o)(L:Array Bool)(hL:L.size=n):∀i,i<n->L.getD i false=false->∃j,j<n/\j∈Region.ready .any (l.take n).toArray L:=by
 intro i
 induction i using Nat.strongRecOn with
 |_ i ih=>
  intro hi hf;have hlen:=h.len;obtain ⟨x,hx⟩:∃x,l[i]?=some x:=⟨_,aad (by omega)⟩;by_cases hr:∀e∈x.after,Region.binds .any e=true->L.getD e.on false=true
  ·refine ⟨i,hi,aa_.2 ⟨by rw [BU (by omega)];exact hf,x,by simp [hi,hx],hr⟩⟩
  ·obtain ⟨e,he,hb,bC⟩:∃e,∃_:e∈x.after,∃_:Region.binds .any e=true,¬L.getD e.on false=true:=by
    simpa only [Classical.not_forall]using hr
   have af:=h.up i x hi hx e he hb;exact ih e.on af (by omega) (by simpa using bC)
theorem BF(h:pN l n o)(L:Array Bool)(hL:L.size=n)(hc:uX l n L):n∈Region.ready .any l.toArray (L.push false)↔∀i,i<n->L.getD i false=true:=by
 rw [aa_];constructor
 ·rintro ⟨_,x,hx,aY⟩;have ex:x=o:=by
   have h1:=h.at';simp at hx;rw [hx]at h1;exact aau h1
  subst ex;have key:∀d i,n-i=d->i<n->L.getD i false=true:=by
   intro d
   induction d using Nat.strongRecOn with
   |_ d ih=>
    intro i hd hi;rcases h.all i hi with hw|⟨j,iI,hj,hw⟩
    ·obtain ⟨y,hy,e,he,hb,qg⟩:=FC hw;have ey:y=x:=aau (hy.symm.trans h.at');subst ey;have:=aY e he hb
     rwa [qg,uL _ _ _ (by omega)]at this
    ·obtain ⟨y,hy,e,he,hb,qg⟩:=FC hw;have:=hc j y hj hy (ih (n-j) (by omega) j rfl hj) e he hb
     rwa [qg]at this
  exact fun i hi=>key _ i rfl hi
 ·intro aY;refine ⟨by subst hL;rw [aat,Array.getElem?_push_size];rfl,o,by simpa using h.at',fun e he hb=> ?_⟩;have:=h.low e he hb;rw [uL _ _ _ (by omega)];exact aY _ this
theorem BO(h:pN l n o)(L:Array Bool){i:Nat}(hi:i∈Region.ready .any l.toArray L):i<n\/i=n:=by
 obtain ⟨_,x,hx,_⟩:=aa_.1 hi;have:=(aab.1 hx).1;have h1:=h.len;simp at this;omega
theorem MN(h:pN l n o)(L:Array Bool)(hL:L.size=n)(aY:∀i,i<n->L.getD i false=true):Region.ready .any l.toArray ((L.push false).setIfInBounds n true)=[]:=by
 rw [abl];intro i hi;have h1:=(aa_.1 hi).1;rcases BO h _ hi with h2|h2
 ·rw [aat,aaJ (by omega),<-aat,uL _ _ _ (by omega),BU (by omega),aY i h2]at h1
  cases h1
 ·subst h2;rw [aat,aaR (by simp [hL])]at h1
  cases h1
theorem Gd(L:Array Bool)(n:Nat):(∀i,i<n->L.getD i false=true)\/∃i,i<n/\L.getD i false=false:=by
 by_cases h:∃i,i<n/\L.getD i false=false
 ·exact .inr h
 ·refine .inl fun i hi=> ?_
  cases hb:L.getD i false with
  |true=>rfl
  |false=>exact absurd ⟨i,hi,hb⟩ h
variable{C:World->Prop} {Q:Exit->Act->World->Prop}
theorem FZ(h:pN l n o)(L:Array Bool)(hL:L.size=n)(aY:∀i,i<n->L.getD i false=true){a:Act}{w:World}(hw:wpList P l.toArray Q [o] a w)(f:Nat):
 wpOp P l.toArray Q n (wpAny P .any l.toArray Q f ((L.push false).setIfInBounds n true)) a w:=by
 have h0:l.toArray[n]?=some o:=by simpa using h.at'
 have h1:wpOp P l.toArray Q n (wpList P l.toArray Q []) a w:=by
  unfold wpOp;simp only [h0];exact hw
 refine wpOp_mono (fun a' w' hq=> ?_) h1;have hr:=MN h L hL aY
 cases f with
 |zero=>exact ⟨hr,hq⟩
 |succ f=>exact ⟨fun _=>hq,fun i hi=>by rw [hr]at hi;cases hi⟩
theorem ME(h:pN l n o):∀(f:Nat) (L:Array Bool) (a:Act) (w:World),L.size=n->uX l n L->C w->
 wpAnyQ P .any (l.take n).toArray C (fun a'=>∀w',C w'->wpList P l.toArray Q [o] a' w') f L a->wpAny P .any l.toArray Q (f+1) (L.push false) a w:=by
 have hlen:=h.len;intro f
 induction f with
 |zero=>
  intro L a w hL hc hC hq;have aY:∀i,i<n->L.getD i false=true:=by
   rcases Gd L n with h1|⟨i,hi,hf⟩
   ·exact h1
   ·obtain ⟨j,_,hj⟩:=FD h L hL i hi hf;rw [hq.1]at hj
    cases hj
  refine ⟨fun h0=> ?_,fun i hi=> ?_⟩
  ·have:=(BF h L hL hc).2 aY;rw [h0]at this
   cases this
  ·rcases BO h _ hi with h2|rfl
   ·have:=(xM L hL i h2).1 hi;rw [hq.1]at this
    cases this
   ·exact FZ h L hL aY (hq.2 w hC) 0
 |succ f ih=>
  intro L a w hL hc hC hq;refine ⟨fun h0=> ?_,fun i hi=> ?_⟩
  ·rcases Gd L n with aY|⟨i,hi,hf⟩
   ·have:=(BF h L hL hc).2 aY;rw [h0]at this
    cases this
   ·obtain ⟨j,hj,PU⟩:=FD h L hL i hi hf;have:=(xM (l:=l) L hL j hj).2 PU;rw [h0]at this
    cases this
  ·rcases BO h _ hi with h2|rfl
   ·have h3:=hq.2 i ((xM L hL i h2).1 hi);have h4:wpOp P (l.take n).toArray Q i (wpAny P .any l.toArray Q (f+1) ((L.setIfInBounds i true).push false)) a w:=
     wpOp_of_qOp hC (fun a' w' G4 hk=>ih (L.setIfInBounds i true) a' w' (by simp [hL]) (hc.set ((xM L hL i h2).1 hi)) G4 hk) h3
    have e:(L.push false).setIfInBounds i true=(L.setIfInBounds i true).push false:=by
     apply Array.ext_getElem?;intro j;by_cases hj:j=i
     ·subst hj;rw [aaR (by simp;omega),Array.getElem?_push_lt (by simp;omega)];simp
     ·rw [aaJ (by omega),Array.getElem?_push,Array.getElem?_push,aaJ (by omega)];simp
    rw [e];obtain ⟨x,hx⟩:∃x,l[i]?=some x:=⟨_,aad (by omega)⟩;have hb:x.guard=none:=h.bare x (aba hx);have w1:∀y,Region.wanted x y=true:=fun y=>by unfold Region.wanted;rw [hb]
    have e1:(l.take n).toArray[i]?=some x:=by simp [h2,hx]
    have e2:l.toArray[i]?=some x:=by simp [hx]
    unfold wpOp at h4⊢;simp only [e1,w1,if_true]at h4;simp only [e2,w1,if_true];exact h4
   ·have aY:=(BF h L hL hc).1 hi;have hr:Region.ready .any (l.take i).toArray L=[]:=by
     rw [abl];intro j hj;obtain ⟨h1,x,hx,_⟩:=aa_.1 hj;have af:=(aab.1 hx).1;simp at af;rw [BU (by omega),aY j (by omega)]at h1
     cases h1
    exact FZ h L hL aY (hq.1 hr w hC) (f+1)
end
theorem MO(m j:Nat):(Array.replicate m false).getD j false=false:=by
 simp only [Array.getD_eq_getD_getElem?,Array.getElem?_replicate];split<;>rfl
theorem Fx{id:Nat}{Q:Exit->Act->World->Prop}{a:Act}{w:World}{l:List Oper}{α:Type}(n:Nat){o:Oper}(f:α->World)(hm:P.follows .mixedOrders=true)(hB:Cj l n=true)(wR:Region.lexB .any (l.take n).toArray=true)(hl:l.length=n+1)(ho:l[n]?=some o)
 (p0:α)(h0:f p0=w.drew)(h:wpQuiet P (l.take n).toArray (fun w'=>∃p,w'=f p) (fun a'=>∀w',(∃p,w'=f p)->wpList P l.toArray Q [o] a' w') (l.take n) a):(Code.region id l.toArray true).wp P Q a w:=by
 refine wp_region_any hm ?_;simp only [Region.lexB,Bool.and_eq_true]at wR;have hn:(l.take n).length=n:=by simp;omega
 have H:=wpAnyQ_lex (C:=fun w'=>∃p,w'=f p) (md:=.any) wR.1 (l.take n) 0 (Array.replicate (l.take n).length false) a (by simp) (by simpa using wR.2) h;have H2:=ME (P:=P) (Q:=Q) (Oe hB hl ho) (l.take n).length (Array.replicate (l.take n).length false) a w.drew (by simp;omega) (fun j x _ _ hl=>by rw [MO]at hl;cases hl) ⟨p0,h0.symm⟩ H;rw [hn]at H2;have e:Array.replicate l.toArray.size false=(Array.replicate n false).push false:=by
  simp [hl,Array.replicate_succ]
 rw [e,show l.toArray.size=n+1 by simp [hl]];exact H2
end
def D3(c:Core)(l:List Ins)(v:Int):Core:=
 if 0<=c.pc/\c.pc<l.length then(c.lay (l.getD c.pc.toNat default).a v).next else c.next
structure ur(w W:World)(tc:TypeId)(g:Nat)(c:Core)(x:Ins):Prop where
 x4:bU W tc w.heap.size (cT c)
 x8:bU W tc (w.heap.size+1) iF
 rl:bU W 35 g (tU x)
 g2:w.heap.size+1<g
 au:Below w.heap.size w W
theorem told_begin(w:World)(c:Core)(tc:TypeId):bU ((w.alloc (.cells (cT c) tc)).alloc (.cells iF tc)) tc w.heap.size (cT c)/\bU ((w.alloc (.cells (cT c) tc)).alloc (.cells iF tc)) tc (w.heap.size+1) iF:=by
 refine ⟨(bU.new w tc (cT c)).au (BJ _ _), ?_⟩;have h:=bU.new (w.alloc (.cells (cT c) tc)) tc iF;simpa using h
variable{w W W':World}{tc:TypeId}{c:Core}{g:Nat}{x:Ins}
theorem ur.mk'{w1:World}(x:Ins)(b1:Below ((w.alloc (.cells (cT c) tc)).alloc (.cells iF tc)).heap.size ((w.alloc (.cells (cT c) tc)).alloc (.cells iF tc)) w1):
 ur w (w1.alloc (.cells (tU x) 35)) tc w1.heap.size c x:=by
 obtain ⟨h4,h8⟩:=told_begin w c tc;have ai:=F9 w (.cells (cT c) tc) (.cells iF tc);have aH:=ai.trans (b1.mono ai.size);have ha:=BJ w1 (.cells (tU x) 35);exact ⟨(h4.au b1).au ha,(h8.au b1).au ha,bU.new _ _ _,by have:=b1.size;simp at this;omega,aH.alloc aH.size _⟩
theorem ur.kept(h:ur w W tc g c x)(hb:Below W.heap.size W W'):ur w W' tc g c x:=
 ⟨h.x4.au hb,h.x8.au hb,h.rl.au hb,h.g2,h.au.trans (hb.mono h.au.size)⟩
theorem ur.core{d:Core}(h:ur w W tc g c x)(ho:jI w.heap.size W W')(hx:bU W' tc w.heap.size (cT d)):ur w W' tc g d x:=
 ⟨hx,h.x8.AR ho (by omega),h.rl.AR ho (by have:=h.g2;omega),h.g2,ho.below h.au (aag _)⟩
theorem ur.ends(h:ur w W tc g c x)(d:Core):
 bU (gH W (w.heap.size+1) d) tc (w.heap.size+1) (cT d)/\Below w.heap.size w (gH W (w.heap.size+1) d):=
 ⟨h.x8.nine d,(Jy _ _ d).below h.au (by omega)⟩
theorem told_no(c:Core)(ad:Option Addr)(n cap:Nat)(v:Int)(xY:¬(0<=c.pc/\c.pc<n))(w:World):
 Calls prog 203 #[fH c,.slice ad n cap,.int .i64 v] w fun e w'=>e=.returned (fH c.next)/\Below w.heap.size w w':=by
 obtain ⟨D,hD⟩:=Haa c.next;have gJ:=DQ c;rw [hD.out]at gJ⊢;clear hD;have nG:=Tb c ad n cap xY ((w.alloc (.cells (cT c) 170)).alloc (.cells iF 170));have HS:=hd (fun w1=>ur.mk' (w:=w) (w1:=w1) (tc:=170) (c:=c) ⟨0,0,0,0,0⟩);clear xY;unfold fH at*
 unfold J8 at*
 unfold cT iF at*
 go_enter func203,ntmps203;go_upto_region 2 with(first|(go_at_call 183;refine nG.mono ?_;rintro e w1 ⟨rfl,b1⟩));replace HS:=hd (HS.out w1 b1);clear nG b1;unfold tU at HS;simp only at HS;obtain ⟨g,hg⟩:=Haa w1.heap.size;obtain ⟨W1,bS⟩:=Haa (w1.alloc (.cells #[.int .i64 0,.int .i64 0,.int .i64 0,.int .i64 0,.int .i64 0] 35));rw [bS.out]at HS⊢;rw [hg.out]at HS⊢;clear bS hg;obtain ⟨c0,c1,c2,c3,c4,c5,c6,c7,c8⟩:=HS.out.x4.cs;replace gJ:=gJ W1;go_wp2_with (go_at_call 182;refine gJ.mono ?_;rintro e w2 ⟨rfl,b2⟩;have HT:=hd (HS.out.kept b2);obtain ⟨z0,z1,z2,z3,z4,z5,z6,z7,z8⟩:=HT.out.x8.cz;have f8:=HT.out.x8.fr);have HE:=hd (HT.out.ends D);clear HS HT;unfold gH at HE;clear c0 c1 c2 c3 c4 c5 c6 c7 c8 z0 z1 z2 z3 z4 z5 z6 z7 z8 f8;obtain ⟨R8,RB⟩:=HE.out;obtain ⟨c0,c1,c2,c3,c4,c5,c6,c7,c8⟩:=R8.cs;refine aar ?_ rfl ⟨rfl,RB⟩;clear R8 RB;generalize World.setCell _ _ _=Wf at*
 simp [results,results203,go_sem,c0,c1,c2,c3,c4,c5,c6,c7,c8]
theorem told_yes(c:Core)(ad:Option Addr)(l:List Ins)(cap p:Nat)(v:Int)(hp:c.pc=(p:Int))(af:p<l.length)(w:World)(hP:oL w ad l):
 Calls prog 203 #[fH c,.slice ad l.length cap,.int .i64 v] w fun e w'=>e=.returned (fH (c.lay (l.getD p default).a v).next)/\Below w.heap.size w w':=by
 have nG:=SA c ad l cap p hp af _ (hP.kept (F9 w (.cells (cT c) 170) (.cells iF 170)));generalize l.getD p default=x at*
 generalize l.length=n at*
 have iU:=Nk c x.a v;obtain ⟨C1,Yc⟩:=Haa (c.lay x.a v);rw [Yc.out]at iU⊢;have gJ:=DQ C1;obtain ⟨D,hD⟩:=Haa C1.next;rw [hD.out]at gJ⊢;clear hD Yc hP hp af;have HS:=hd (fun w1=>ur.mk' (w:=w) (w1:=w1) (tc:=170) (c:=c) x);unfold fH at*
 unfold dC at*
 unfold cT iF at*
 go_enter func203,ntmps203;go_upto_region 2 with(first|(go_at_call 183;refine nG.mono ?_;rintro e w1 ⟨rfl,b1⟩));replace HS:=hd (HS.out w1 b1);clear nG b1;unfold tU at HS;obtain ⟨g,hg⟩:=Haa w1.heap.size;obtain ⟨W1,bS⟩:=Haa (w1.alloc (.cells #[.int .i64 x.op,.int .i64 x.a,.int .i64 x.b,.int .i64 x.c,.int .i64 x.dn] 35));rw [bS.out]at HS⊢;rw [hg.out]at HS⊢;clear bS hg;obtain ⟨c0,c1,c2,c3,c4,c5,c6,c7,c8⟩:=HS.out.x4.cs;obtain ⟨i0,i1,i2,i3,i4⟩:=HS.out.rl.ci;replace iU:=iU W1;go_upto_region 4 with(go_at_call 229;refine iU.mono ?_;rintro e w2 ⟨rfl,b2⟩;have HT:=hd (HS.out.kept b2);obtain ⟨c0,c1,c2,c3,c4,c5,c6,c7,c8⟩:=HT.out.x4.cs;have f4:=HT.out.x4.fr);clear iU c0 c1 c2 c3 c4 c5 c6 c7 c8 i0 i1 i2 i3 i4 b2 f4 HS;obtain ⟨W3,kK⟩:=Haa (gH w2 w.heap.size C1);have HS:=hd (HT.out.core (Jy _ _ _) (HT.out.x4.nine C1));rw [kK.out]at HS;clear HT;unfold gH at kK;rw [kK.out];clear kK;obtain ⟨c0,c1,c2,c3,c4,c5,c6,c7,c8⟩:=HS.out.x4.cs;replace gJ:=gJ W3;go_wp2_with (go_at_call 182;refine gJ.mono ?_;rintro e w4 ⟨rfl,b4⟩;have HT:=hd (HS.out.kept b4);obtain ⟨z0,z1,z2,z3,z4,z5,z6,z7,z8⟩:=HT.out.x8.cz;have f8:=HT.out.x8.fr);have HE:=hd (HT.out.ends D);clear HS HT;unfold gH at HE;clear c0 c1 c2 c3 c4 c5 c6 c7 c8 z0 z1 z2 z3 z4 z5 z6 z7 z8 f8;obtain ⟨R8,RB⟩:=HE.out;obtain ⟨c0,c1,c2,c3,c4,c5,c6,c7,c8⟩:=R8.cs;refine aar ?_ rfl ⟨rfl,RB⟩;clear R8 RB;generalize World.setCell _ _ _=Wf at*
 simp [results,results203,go_sem,c0,c1,c2,c3,c4,c5,c6,c7,c8]
theorem told_any(c:Core)(ad:Option Addr)(l:List Ins)(cap:Nat)(v:Int)(w:World)(hP:oL w ad l):
 Calls prog 203 #[fH c,.slice ad l.length cap,.int .i64 v] w fun e w'=>e=.returned (fH (D3 c l v))/\Below w.heap.size w w':=by
 unfold D3;by_cases h:0<=c.pc/\c.pc<l.length
 ·rw [aah h];obtain ⟨p,hp⟩:∃p:Nat,c.pc=p:=⟨c.pc.toNat,by omega⟩;rw [show c.pc.toNat=p by omega];exact told_yes c ad l cap p v hp (by omega) w hP
 ·rw [aaf h];exact told_no c ad l.length cap v h w
end Go.Proofs.YthopnfbjiifhhaaGreatDoor.eZ
