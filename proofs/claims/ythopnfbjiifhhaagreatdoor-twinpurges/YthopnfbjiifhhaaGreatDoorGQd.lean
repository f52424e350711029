/- What is wrong with a table: slots.New. -/
import Derived.Test.YthopnfbjiifhhaaGreatDoorGQc
import Derived.Lib.SlBytesConst
set_option maxHeartbeats 4000000
set_option maxRecDepth 100000
namespace Go.Proofs.YthopnfbjiifhhaaGreatDoor
open Go.RowKit Go.Proofs.Tryz
variable{w W W':World}{a a2:Option Addr}{l:List Int}{n c:Nat}{bs:List Nat}{α:Type}
theorem Og(h:Rd w a (iC l))(hl:0<l.length):∃b off,a=some ⟨b,off,none⟩/\∀i,i<l.length->w.cell? ⟨b,off+i,none⟩=some (.int .i64 (l.getD i 0)):=by
 obtain ⟨b,o,rfl,_⟩:=h 0 _ (rW l 0 hl);refine ⟨b,o,rfl,fun i hi=> ?_⟩;obtain ⟨b',o',e,hc⟩:=h i _ (rW l i hi)
 cases e
 exact hc
theorem clone_any(b o cap:Nat)(l:List Int)(w:World)(hR:Rd w (some ⟨b,o,none⟩) (iC l))(hl:l.length<=1000000):
 Calls prog 57 #[.slice (some ⟨b,o,none⟩) l.length cap] w fun e w'=>(∃a' c',e=.returned (.slice a' l.length c')/\Row w' 3 1 a' l.length c' (iC l)/\∀k,ae a'=some k->w.heap.size<=k)/\Below w.heap.size w w':=by
 obtain ⟨i,h1,h2,h3,h4⟩:=info_parts FN;have hb:=aA w (.cells #[] 3);have bI:Row (w.alloc (.cells #[] 3)) 3 1 (some ⟨w.heap.size,0,none⟩) 0 0 []:=by
  have:=mZ (size:=1) (n:=0) (aae w (.cells #[] 3)) rfl (by decide);exact this
 have hs:Src prog 1 23 (.slice (some ⟨b,o,none⟩) l.length cap) l.length (iC l) (w.alloc (.cells #[] 3)):=Rd.src (hR.below hb) aaV (oo l) (by omega) (tH l);obtain ⟨a',c',w',k1,k2,k3,k4,_⟩:=mD (P:=prog) _ 23 3 i _ 1 8 aaV h1 h2 h3 h4 rfl bI _ l.length _ hs (by unfold maxLen;omega) (by omega)
 have HE:Hid (Row w' 3 1 a' l.length c' (iC l)/\(∀k,ae a'=some k->w.heap.size<=k)/\Below w.heap.size w w'):=hd ⟨by simpa using k2,fun k hk=>by
  rcases k4 k hk with h|h
  ·cases h;exact aag _
  ·have:=hb.size;omega,hb.trans (k3.below (by have:=hb.size;omega) (fun k _ hk=>by cases hk;exact aag _))⟩
 replace k1:Hid (∀ty,(Builtin.append_ #[23,23] ty #[.slice (some ⟨w.heap.size,0,none⟩) 0 0,.slice (some ⟨b,o,none⟩) l.length cap]).run prog (w.alloc (.cells #[] 3))=.ok (.slice a' l.length c') w'):=hd (by simpa using k1);clear hR bI hs k2 k3 k4;have Ic:∀(w:World) (a:Option Addr) (n c n' c':Nat),(binOp .eql 23 (.slice a n c) (.slice none n' c')).run prog w=.ok (.bool a.isNone) w:=fun w a n c n' c'=>Lib.run_eql_slice_nil w _ _ a n c n' c' aaV
 go_enter func57,ntmps57;go_wp2_with (first|(at_builtin;refine dZ rfl _ _ _ rfl _ _ _ _ rfl rfl k1.out ?_;clear k1));go_ret;exact ⟨⟨a',c',rfl,HE.out.1,HE.out.2.1⟩,HE.out.2.2⟩
def xZ(l:List Int)(P:Int):Int:=if P<1\/8<P\/l.length=0 then 1 else if 64<l.length then 3 else if l.all (tP P)then 0 else 2
theorem newE_tab(l:List Int)(P:Int)(h1:1<=P)(h8:P<=8):xZ l P=oD l P:=by
 unfold xZ oD;by_cases h:l.length=0
 ·rw [aah (by omega),aah h]
 ·rw [aaf (by omega),aaf h]
theorem Vr{f:Int->Bool}(h:l.all f=true)(i:Nat)(hi:i<l.length):f (l.getD i 0)=true:=by
 rw [aac,aad hi];exact aa5.1 h _ (aaG hi)
theorem snew_any(a:Option Addr)(cap:Nat)(l:List Int)(P:Int)(w:World)(hR:Rd w a (iC l)):
 Calls prog 39 #[.slice a l.length cap,.int .i64 P] w fun e w'=>(∃v x,e=.returned (.tuple #[v,.int .i64 (xZ l P),.int .i64 x]))/\Below w.heap.size w w':=by
 obtain ⟨E,hE⟩:=Haa (xZ l P);rw [hE.out];have aX:=hd (fk w);by_cases h1:P<1
 ·obtain rfl:E=1:=by rw [<-hE.out,xZ,aah (by omega)]
  clear hR hE;generalize l.length=len at*
  go_enter func39,ntmps39
  go_wp2
  go_ret3
  exact ⟨⟨_,_,rfl⟩,aX.out⟩
 ·have h1d:decide (P<1)=false:=by simp;omega
  have jY:1<=P:=by omega
  by_cases h2:8<P
  ·obtain rfl:E=1:=by rw [<-hE.out,xZ,aah (by omega)]
   clear hR hE h1;generalize l.length=len at*
   go_enter func39,ntmps39
   go_wp2
   go_ret3
   exact ⟨⟨_,_,rfl⟩,aX.out⟩
  ·have XK:decide (8<P)=false:=by simp;omega
   have oM:P<=8:=by omega
   by_cases h3:l.length=0
   ·obtain rfl:E=1:=by rw [<-hE.out,xZ,aah (by omega)]
    have vf:((l.length:Int)==0)=true:=by rw [beq_iff_eq];omega
    clear hR hE h1 h2 h3;generalize l.length=len at*
    go_enter func39,ntmps39
    go_wp2
    go_ret3
    exact ⟨⟨_,_,rfl⟩,aX.out⟩
   ·have h3d:((l.length:Int)==0)=false:=by rw [abh];omega
    by_cases h4:64<l.length
    ·obtain rfl:E=3:=by rw [<-hE.out,xZ,aaf (by omega),aah h4]
     have h4':(64:Int)<(l.length:Int):=by omega
     clear hR hE h1 h2 h3 h4;generalize l.length=len at*
     go_enter func39,ntmps39
     go_wp2
     go_ret3
     exact ⟨⟨_,_,rfl⟩,aX.out⟩
    ·have h4':(l.length:Int)<=64:=by omega
     have h4d:decide ((64:Int)<(l.length:Int))=false:=by simp;omega
     have A9:Hid (E=if l.all (tP P)then 0 else 2):=hd (by rw [<-hE.out,xZ,aaf (by omega),aaf h4]);obtain ⟨b,o,rfl,hc⟩:=Og hR (by omega);have HC:=hd hc;have bZ:=hd (clone_any b o cap l w hR (by omega));clear hc hR hE;go_enter func39,ntmps39;go_wp2_with fail;go_loopg [7,8,25,26,27,28,29,30,31,32,33,34,35,36,37,38] l.length (fun g _ _ v25 _ _ _ _ _ _ _ _ _ _ _ _ _ wr=>∃i:Nat,i+g=l.length/\v25=.int .i64 (i:Int)/\wr=w/\Hid (∀j,j<i->tP P (l.getD j 0)=true))
     case atStart=>exact ⟨0,by omega,by go_num,rfl,hd (fun j hj=>by omega)⟩
     case round=>
      obtain ⟨i,hi,rfl,rfl,HA⟩:=hrel;by_cases h0:gk=0
      ·subst h0;have dH:decide ((i:Int)<(l.length:Int))=false:=by simp;omega
       have tQ:(l.length:Int)<=(i:Int):=by omega
       obtain rfl:E=0:=by
        rw [A9.out,aah];rw [aa5];intro x hx;obtain ⟨j,hj,rfl⟩:=aaZ hx;have:=HA.out j (by omega)
        rwa [aac,aad hj]at this
       have rz:=bZ.out;clear A9 HA HC;go_wp2_with (go_at_call 57;refine rz.mono ?_;rintro e w1 ⟨⟨a',c',rfl,bI,ko⟩,hb⟩;replace bI:=hd bI;replace hb:=hd hb)
       go_ret3
       exact ⟨⟨_,_,rfl⟩,hb.out.trans ((aA w1 _).mono hb.out.size)⟩
      ·have af:(i:Int)<(l.length:Int):=by omega
       have hx:=HC.out i (by omega)
       have HI:Hid (tP P (l.getD i 0)=false->E=2):=hd (by
        intro hf;rw [A9.out,aaf];intro aY;rw [Vr aY i (by omega)]at hf
        cases hf)
       have HN:Hid (tP P (l.getD i 0)=true->∀j,j<i+1->tP P (l.getD j 0)=true):=hd (by
        intro ht j hj;by_cases e:j=i
        ·rw [e];exact ht
        ·exact HA.out j (by omega))
       clear A9 HA HC;generalize l.getD i 0=x at*
       by_cases j8:x<0
       ·obtain rfl:E=2:=HI.out (by simp [tP];omega);go_wp2_with fail
        go_ret3
        exact ⟨⟨_,_,rfl⟩,aX.out⟩
       ·have hx0d:decide (x<0)=false:=by simp;omega
        have hx0':0<=x:=by omega
        by_cases hxP:P<=x
        ·obtain rfl:E=2:=HI.out (by simp [tP];omega);go_wp2_with fail
         go_ret3
         exact ⟨⟨_,_,rfl⟩,aX.out⟩
        ·have hxPd:decide (P<=x)=false:=by simp;omega
         have hxP':x<P:=by omega
         go_wp2_with fail;go_roundg (gk-1)
         case rel=>exact ⟨i+1,by omega,by go_num,rfl,hd (HN.out (by simp [tP];omega))⟩
         case measure=>omega
theorem MW{l:List Ins}(h:Rd w a (jK l)):oL w a l:=fun i hi=>by
 have h0:=FI l i 0 hi (by omega);rw [aa8]at h0;obtain ⟨b,o,rfl,c0⟩:=h (i*5) (.int .i64 (l.getD i default).op) h0;refine ⟨b,o,rfl, ?_⟩;have hk:∀r u,r<5->(rS (l.getD i default))[r]?=some u->w.cell? ⟨b,o+i*5+r,none⟩=some u:=fun r u hr hu=>by
  obtain ⟨b',o',e,hc⟩:=h (i*5+r) u ((FI l i r hi hr).trans hu)
  cases e
  rw [abw];exact hc
 exact ⟨hk 0 _ (by omega) rfl,hk 1 _ (by omega) rfl,hk 2 _ (by omega) rfl,hk 3 _ (by omega) rfl,hk 4 _ (by omega) rfl⟩
def Ld(c:ak):Value:=.agg #[.int .i64 c.fuel,.int .i64 c.lane,.int .i64 c.aF,.int .i64 c.log]
theorem Jz(c:ak)(g:Loc)(w:World):
 Calls prog 26 #[ct c g] w fun e w'=>e=.returned (Ld c)/\Below w.heap.size w w':=by
 unfold ct a_ Ld;obtain ⟨w1,aR⟩:=Haa ((w.alloc (.cells #[.slice g.la c.labels.length g.lc,.slice g.ta c.table.length g.tc,.int .i64 c.fuel,.int .i64 c.lane,.int .i64 c.aF,.int .i64 c.log,.slice g.pa c.procs.length g.pc] 26)).alloc (.cells #[.int .i64 c.fuel,.int .i64 c.lane,.int .i64 c.aF,.int .i64 c.log] 61));have hb:Below w.heap.size w w1:=by rw [<-aR.out];exact ((aak _ w).alloc (aag _) _).alloc (by simp) _
 have HB:=hd hb;have hh:w1.heap[w.heap.size+1]?=some (.cells #[.int .i64 c.fuel,.int .i64 c.lane,.int .i64 c.aF,.int .i64 c.log] 61 (0,0)):=by
  rw [<-aR.out,show w.heap.size+1=(w.alloc (.cells #[.slice g.la c.labels.length g.lc,.slice g.ta c.table.length g.tc,.int .i64 c.fuel,.int .i64 c.lane,.int .i64 c.aF,.int .i64 c.log,.slice g.pa c.procs.length g.pc] 26)).heap.size by simp];exact aae _ _
 have d0:=aaa w1 _ 0 _ _ _ hh;have d1:=aaa w1 _ 1 _ _ _ hh;have d2:=aaa w1 _ 2 _ _ _ hh;have d3:=aaa w1 _ 3 _ _ _ hh;simp at d0 d1 d2 d3;clear hb hh;go_enter func26,ntmps26;go_wp2_with fail;rw [aR.out];refine aar (v:=.agg #[.int .i64 c.fuel,.int .i64 c.lane,.int .i64 c.aF,.int .i64 c.log]) ?_ rfl ⟨rfl,HB.out⟩;simp [results,results26,go_sem,d0,d1,d2,d3]
theorem mayRun_any(m:jl)(P K:Int)(w:World)(hP:0<=P/\P<=8)(hR:Rd w m.a (jK m.p.code))(hF:bR w):
 Calls prog 42 #[.agg #[.int .i64 m.p.part,.slice m.a m.p.code.length m.c],.int .i64 P,.int .i64 K] w fun e w'=>e=.returned (.int .i64 (ji P K m.p))/\Below w.heap.size w w':=by
 have g_:=vU m.p.part 0 (P-1);have eP:IntKind.i64.wrap (P-1)=P-1:=by rw [abG];omega
 have hb:=aA w (.cells #[.int .i64 m.p.part,.slice m.a m.p.code.length m.c] 38);have hm:=FX m.a m.c m.p.code K _ (MW (hR.below hb)) (hF.kept hb);have HB:=hd hb;obtain ⟨E,hE⟩:=Haa (ji P K m.p);rw [hE.out];by_cases h0:bf 0 (P-1) m.p.part=0
 ·obtain rfl:E=(gB m.p.code K).1:=by rw [<-hE.out,ji,aaf (by simp [h0])]
  rw [h0]at g_;clear hb hE h0;generalize (gB m.p.code K).1=E at*
  generalize (gB m.p.code K).2=D at*
  obtain ⟨⟨part,code⟩,ma,mc⟩:=m;simp only at*
  go_enter func42,ntmps42;go_wp2_with (first|(go_at_call 40;refine (g_ _).mono ?_;rintro e w1 ⟨rfl,rfl⟩)|(go_at_call 58;refine hm.mono ?_;rintro e w2 ⟨rfl,aI⟩));go_ret;exact ⟨rfl,HB.out.trans (aI.mono HB.out.size)⟩
 ·obtain rfl:E=2:=by rw [<-hE.out,ji,aah h0]
  have h2:bf 0 (P-1) m.p.part=2:=by
   unfold bf at h0⊢;split at h0
   ·exact absurd rfl h0
   ·next hh=>rw [aaf hh]
  rw [h2]at g_;clear hb hE h0 h2 hm;obtain ⟨⟨part,code⟩,ma,mc⟩:=m;simp only at*
  go_enter func42,ntmps42;go_wp2_with (first|(go_at_call 40;refine (g_ _).mono ?_;rintro e w1 ⟨rfl,rfl⟩));go_ret;exact ⟨rfl,HB.out⟩
def Yy(c:ak):Int×Int:=if dQ 32 c.procs.length≠0 then(dQ 32 c.procs.length,6)else qR c.labels.length c.aF c.procs 0
def Yz(c:ak):Int×Int:=if bf 0 4096 c.log≠0 then(2,5)else Yy c
def YA(c:ak):Int×Int:=if bf 0 8 c.aF≠0 then(2,4)else Yz c
def YB(c:ak):Int×Int:=if bf 1 64 c.lane≠0 then(2,3)else YA c
def mN0(c:ak):Int×Int:=if bf 1 256 c.fuel≠0 then(2,2)else YB c
def Ao(c:ak):Nat->Int×Int
 |0=>mN0 c
 |1=>YB c
 |2=>YA c
 |3=>Yz c
 |_=>Yy c
theorem mayC_eq(c:ak):jt c=if(fN c.labels).1≠0 then(((fN c.labels).1:Int),0)else if oD c.table c.labels.length≠0 then(oD c.table c.labels.length,1)else Ao c 0:=rfl
theorem JA{lo hi v:Int}(h:bf lo hi v≠0):bf lo hi v=2:=by
 unfold bf at h⊢;split at h
 ·exact absurd rfl h
 ·next hh=>rw [aaf hh]
theorem Vs(P K:Int):∀(l:List Pr) (s:Int) (i:Nat),i<l.length->(∀j,j<i->ji P K (l.getD j default)=0)->ji P K (l.getD i default)≠0->qR P K l s=(ji P K (l.getD i default),7+(s+i))
 |[],_,i,h,_,_=>absurd h (aao i)
 |x::r,s,0,_,_,h=>by
  have h':ji P K x≠0:=by simpa using h
  simp only [qR,if_pos h',List.getD_cons_zero];simp
 |x::r,s,i+1,hi,hb,h=>by
  have h0:¬ji P K x≠0:=by
   have:=hb 0 (by omega);simpa using this
  have ih:=Vs P K r (s+1) i (by simpa using hi) (fun j hj=>by simpa using hb (j+1) (by omega)) (by simpa using h);simp only [qR,if_neg h0,ih,List.getD_cons_succ,Prod.mk.injEq,true_and];omega
theorem Nn(c:ak)(g:Loc)(w:World)(hR:fD w c g)(hF:bR w)(hL:eQ w):
 Calls prog 23 #[ct c g] w fun e w'=>e=.returned (.tuple #[.int .i64 (jt c).1,.int .i64 (jt c).2])/\Below w.heap.size w w':=by
 have HM:=hd (mayC_eq c);obtain ⟨M,hM⟩:=Haa (jt c);rw [hM.out]at HM⊢;have HR:=hd hR;have HF:=hd hF;have HL:=hd hL;have uz:=hd hR.len;clear hR hF hL hM;unfold ct a_;go_enter func23,ntmps23;go_upto_region 1 with fail;obtain ⟨w1,aR⟩:=Haa (w.alloc (.cells #[.slice g.la c.labels.length g.lc,.slice g.ta c.table.length g.tc,.int .i64 c.fuel,.int .i64 c.lane,.int .i64 c.aF,.int .i64 c.log,.slice g.pa c.procs.length g.pc] 26));rw [aR.out];have B1:Hid (Below w.heap.size w w1):=hd (by rw [<-aR.out];exact aA w _);obtain ⟨G,hG⟩:=Haa w.heap.size;have HG:Hid (w1.heap[G]?=some (.cells #[.slice g.la c.labels.length g.lc,.slice g.ta c.table.length g.tc,.int .i64 c.fuel,.int .i64 c.lane,.int .i64 c.aF,.int .i64 c.log,.slice g.pa c.procs.length g.pc] 26 (0,0))):=hd (by rw [<-aR.out,<-hG.out];exact aae w _);rw [hG.out];clear aR;have HK:Hid (∀W,Below w1.heap.size w1 W->W.heap[G]?=some (.cells #[.slice g.la c.labels.length g.lc,.slice g.ta c.table.length g.tc,.int .i64 c.fuel,.int .i64 c.lane,.int .i64 c.aF,.int .i64 c.log,.slice g.pa c.procs.length g.pc] 26 (0,0))):=hd (fun W hW=>(hW.block G (aab.1 HG.out).1).trans HG.out)
 have HC:Hid (∀W,Below w1.heap.size w1 W->W.cell? ⟨G,0,none⟩=some (.slice g.la c.labels.length g.lc)/\W.cell? ⟨G,1,none⟩=some (.slice g.ta c.table.length g.tc)/\W.cell? ⟨G,2,none⟩=some (.int .i64 c.fuel)/\W.cell? ⟨G,3,none⟩=some (.int .i64 c.lane)/\W.cell? ⟨G,4,none⟩=some (.int .i64 c.aF)/\W.cell? ⟨G,5,none⟩=some (.int .i64 c.log)/\W.cell? ⟨G,6,none⟩=some (.slice g.pa c.procs.length g.pc)):=hd (fun W hW=>by
  have h:=HK.out W hW
  exact ⟨aaa W G 0 _ _ _ h,aaa W G 1 _ _ _ h,aaa W G 2 _ _ _ h,aaa W G 3 _ _ _ h,aaa W G 4 _ _ _ h,aaa W G 5 _ _ _ h,aaa W G 6 _ _ _ h⟩)
 have HB:Hid (Below w1.heap.size w1 w1):=hd (fk w1);obtain ⟨c0,-⟩:=HC.out w1 HB.out;have ht:=Nc g.la g.lc c.labels w1 (HR.out.pY.below B1.out);have rA:Hid (((fN c.labels).1:Int)=0->1<=c.labels.length/\c.labels.length<=8):=hd (fun h=>BT (by omega));generalize (fN c.labels).1=E1 at*
 generalize (fN c.labels).2=D1 at*
 go_upto_region 2 with(go_at_call 38;refine ht.mono ?_;rintro e w2 ⟨rfl,dX⟩;replace dX:=hd dX);clear ht c0;have B2:Hid (Below w1.heap.size w1 w2):=hd (by obtain ⟨n,e⟩:=dX.out;rw [e];exact ck w1 n);clear dX;by_cases QG:E1=0
 ·subst QG;replace HM:Hid (M=if oD c.table c.labels.length≠0 then(oD c.table c.labels.length,1)else Ao c 0):=hd (by rw [HM.out,aaf (by simp)]);have hlen:=rA.out rfl;obtain ⟨c0,c1,-⟩:=HC.out w2 B2.out;have hn:=snew_any g.ta g.tc c.table c.labels.length w2 ((HR.out.qh.below B1.out).below B2.out);rw [newE_tab _ _ (by omega) (by omega)]at hn;generalize oD c.table c.labels.length=E2 at*
  replace hn:=hd hn;go_upto_region 4 with fail;have mQ:=hn.out;clear hn;go_upto_region 5 with(go_at_call 39;refine mQ.mono ?_;rintro e w3 ⟨⟨v,x,rfl⟩,b3⟩;replace b3:=hd b3);replace B2:Hid (Below w1.heap.size w1 w3):=hd (B2.out.trans (b3.out.mono B2.out.size));clear b3 mQ c0 c1 rA;by_cases A9:E2=0
  ·subst A9;replace HM:Hid (M=Ao c 0):=hd (by rw [HM.out,aaf (by simp)]);obtain ⟨c0,c1,c2,c3,c4,c5,c6⟩:=HC.out w3 B2.out;have xu:=Jz c g w3;unfold ct a_ Ld at xu;go_upto_block 0 with(go_at_call 26;refine xu.mono ?_;rintro e w4 ⟨rfl,b4⟩;replace b4:=hd b4);replace B2:Hid (Below w1.heap.size w1 w4):=hd (B2.out.trans (b4.out.mono B2.out.size));clear b4 xu c0 c1 c2 c3 c4 c5 c6;go_wp2_with fail;go_loopg [9,10,11,40,41,42,43,44,45,46,47,48,49,50,51,52,53,54,55,56,57,58,59] 4 (fun gg _ _ _ v40 _ _ _ _ _ _ _ _ _ _ _ _ _ _ _ _ _ _ _ wr=>∃i:Nat,i+gg=4/\v40=.int .i64 (i:Int)/\Hid (M=Ao c i)/\Hid (Below w1.heap.size w1 wr))
   case atStart=>exact ⟨0,by omega,by go_num,HM,B2⟩
   case round=>
    clear HM B2;obtain ⟨i,hi,rfl,HM,B2⟩:=hrel;have hc:i=0\/i=1\/i=2\/i=3\/i=4:=by omega
    rcases hc with rfl|rfl|rfl|rfl|rfl
    ·obtain rfl:gk=4:=by omega
     have ix:∀W,(Instr.index 61 (.agg #[.int .i64 c.fuel,.int .i64 c.lane,.int .i64 c.aF,.int .i64 c.log]) (.int .i64 0)).run prog W=.ok (.int .i64 c.fuel) W:=fun W=>by kernel_rfl
     have y0:=((HL.out.kept B1.out).kept B2.out) 0 (by omega);have y1:=((HL.out.kept B1.out).kept B2.out) 1 (by omega);simp only [qK,List.getD_cons_zero,List.getD_cons_succ]at y0 y1;have g_:=vU c.fuel 1 256;have lS:Hid (M=if bf 1 256 c.fuel≠0 then(2,2)else Ao c 1):=hd HM.out;have HT:Hid (bf 1 256 c.fuel≠0->bf 1 256 c.fuel=2):=hd JA;clear HM;generalize bf 1 256 c.fuel=E at*
     go_upto_region 10 with fail;go_quiet (first|with_reducible exact Calls.quiet_of_same (g_ _))
     by_cases hE:E=0
     ·subst hE;clear y0 y1 g_ ix;go_wp2_with fail;go_roundg 3
      case rel=>exact ⟨1,by omega,rfl,hd (by rw [lS.out,aaf (by simp)]),hd (B2.out.trans ((ck wr nq).mono B2.out.size))⟩
      case measure=>omega
     ·obtain rfl:E=2:=HT.out hE;obtain rfl:M=(2,2):=by rw [lS.out,aah hE]
      clear y0 y1 g_ ix hE;go_wp2_with fail;go_ret2;exact ⟨rfl,B1.out.trans ((B2.out.trans ((ck wr nq).mono B2.out.size)).mono B1.out.size)⟩
    ·obtain rfl:gk=3:=by omega
     have ix:∀W,(Instr.index 61 (.agg #[.int .i64 c.fuel,.int .i64 c.lane,.int .i64 c.aF,.int .i64 c.log]) (.int .i64 1)).run prog W=.ok (.int .i64 c.lane) W:=fun W=>by kernel_rfl
     have y0:=((HL.out.kept B1.out).kept B2.out) 3 (by omega);have y1:=((HL.out.kept B1.out).kept B2.out) 4 (by omega);simp only [qK,List.getD_cons_zero,List.getD_cons_succ]at y0 y1;have g_:=vU c.lane 1 64;have lS:Hid (M=if bf 1 64 c.lane≠0 then(2,3)else Ao c 2):=hd HM.out;have HT:Hid (bf 1 64 c.lane≠0->bf 1 64 c.lane=2):=hd JA;clear HM;generalize bf 1 64 c.lane=E at*
     go_upto_region 10 with fail;go_quiet (first|with_reducible exact Calls.quiet_of_same (g_ _))
     by_cases hE:E=0
     ·subst hE;clear y0 y1 g_ ix;go_wp2_with fail;go_roundg 2
      case rel=>exact ⟨2,by omega,rfl,hd (by rw [lS.out,aaf (by simp)]),hd (B2.out.trans ((ck wr nq).mono B2.out.size))⟩
      case measure=>omega
     ·obtain rfl:E=2:=HT.out hE;obtain rfl:M=(2,3):=by rw [lS.out,aah hE]
      clear y0 y1 g_ ix hE;go_wp2_with fail;go_ret2;exact ⟨rfl,B1.out.trans ((B2.out.trans ((ck wr nq).mono B2.out.size)).mono B1.out.size)⟩
    ·obtain rfl:gk=2:=by omega
     have ix:∀W,(Instr.index 61 (.agg #[.int .i64 c.fuel,.int .i64 c.lane,.int .i64 c.aF,.int .i64 c.log]) (.int .i64 2)).run prog W=.ok (.int .i64 c.aF) W:=fun W=>by kernel_rfl
     have y0:=((HL.out.kept B1.out).kept B2.out) 6 (by omega);have y1:=((HL.out.kept B1.out).kept B2.out) 7 (by omega);simp only [qK,List.getD_cons_zero,List.getD_cons_succ]at y0 y1;have g_:=vU c.aF 0 8;have lS:Hid (M=if bf 0 8 c.aF≠0 then(2,4)else Ao c 3):=hd HM.out;have HT:Hid (bf 0 8 c.aF≠0->bf 0 8 c.aF=2):=hd JA;clear HM;generalize bf 0 8 c.aF=E at*
     go_upto_region 10 with fail;go_quiet (first|with_reducible exact Calls.quiet_of_same (g_ _))
     by_cases hE:E=0
     ·subst hE;clear y0 y1 g_ ix;go_wp2_with fail;go_roundg 1
      case rel=>exact ⟨3,by omega,rfl,hd (by rw [lS.out,aaf (by simp)]),hd (B2.out.trans ((ck wr nq).mono B2.out.size))⟩
      case measure=>omega
     ·obtain rfl:E=2:=HT.out hE;obtain rfl:M=(2,4):=by rw [lS.out,aah hE]
      clear y0 y1 g_ ix hE;go_wp2_with fail;go_ret2;exact ⟨rfl,B1.out.trans ((B2.out.trans ((ck wr nq).mono B2.out.size)).mono B1.out.size)⟩
    ·obtain rfl:gk=1:=by omega
     have ix:∀W,(Instr.index 61 (.agg #[.int .i64 c.fuel,.int .i64 c.lane,.int .i64 c.aF,.int .i64 c.log]) (.int .i64 3)).run prog W=.ok (.int .i64 c.log) W:=fun W=>by kernel_rfl
     have y0:=((HL.out.kept B1.out).kept B2.out) 9 (by omega);have y1:=((HL.out.kept B1.out).kept B2.out) 10 (by omega);simp only [qK,List.getD_cons_zero,List.getD_cons_succ]at y0 y1;have g_:=vU c.log 0 4096;have lS:Hid (M=if bf 0 4096 c.log≠0 then(2,5)else Ao c 4):=hd HM.out;have HT:Hid (bf 0 4096 c.log≠0->bf 0 4096 c.log=2):=hd JA;clear HM;generalize bf 0 4096 c.log=E at*
     go_upto_region 10 with fail;go_quiet (first|with_reducible exact Calls.quiet_of_same (g_ _))
     by_cases hE:E=0
     ·subst hE;clear y0 y1 g_ ix;go_wp2_with fail;go_roundg 0
      case rel=>exact ⟨4,by omega,rfl,hd (by rw [lS.out,aaf (by simp)]),hd (B2.out.trans ((ck wr nq).mono B2.out.size))⟩
      case measure=>omega
     ·obtain rfl:E=2:=HT.out hE;obtain rfl:M=(2,5):=by rw [lS.out,aah hE]
      clear y0 y1 g_ ix hE;go_wp2_with fail;go_ret2;exact ⟨rfl,B1.out.trans ((B2.out.trans ((ck wr nq).mono B2.out.size)).mono B1.out.size)⟩
    ·obtain rfl:gk=0:=by omega
     replace HM:Hid (M=if dQ 32 c.procs.length≠0 then(dQ 32 c.procs.length,6)else qR c.labels.length c.aF c.procs 0):=hd HM.out;obtain ⟨c0,c1,c2,c3,c4,c5,c6⟩:=HC.out wr B2.out;have K_:=T6 c.procs.length 32;have HT:Hid (dQ 32 c.procs.length=0->c.procs.length<=32):=hd (fun h=>by have:=zK h;omega);have HP:Hid (dQ 32 c.procs.length=0->c.procs.length≠0):=hd (fun h=>by have:=zK h;omega);generalize dQ 32 (c.procs.length:Int)=E at*
     go_upto_region 15 with(go_at_call 41;refine (K_ _).mono ?_;rintro e wq ⟨rfl,eU⟩;obtain rfl:wr=wq:=eU.symm);clear K_;by_cases hE:E=0
     ·subst hE;replace HM:Hid (M=qR c.labels.length c.aF c.procs 0):=hd (by rw [HM.out,aaf (by simp)]);have Cy:=HT.out rfl;have bC:0<g.ms.length:=by rw [uz.out];have:=HP.out rfl;omega
      obtain ⟨b,o,YC,-⟩:=HR.out.oN _ _ (oy g.ms 0 bC).1;obtain ⟨la,lc,ta,tc,pa,pc,ms⟩:=g;simp only at YC bC c0 c1 c6 HC⊢;subst YC;replace uz:Hid (ms.length=c.procs.length):=uz;go_upto_block 2 with fail;clear c0 c1 c2 c3 c4 c5 c6 HT;go_wp2_with fail;go_loopg [13,14,15,70,71,72,73,74,75,76,77,78,79,80,81,82,83,84,85,86,87] c.procs.length (fun gg _ _ _ v70 _ _ _ _ _ _ _ _ _ _ _ _ _ _ _ _ _ wr=>∃i:Nat,i+gg=c.procs.length/\v70=.int .i64 (i:Int)/\Hid (∀j,j<i->ji c.labels.length c.aF (c.procs.getD j default)=0)/\Hid (Below w1.heap.size w1 wr))
      case atStart=>exact ⟨0,by omega,by go_num,hd (fun j hj=>by omega),B2⟩
      case round=>
       clear B2;obtain ⟨i,hi,rfl,HA,B2⟩:=hrel;by_cases h0:gk=0
       ·subst h0;have dH:decide ((i:Int)<(c.procs.length:Int))=false:=by simp;omega
        have tQ:(c.procs.length:Int)<=(i:Int):=by omega
        obtain rfl:M=(0,0):=by
         rw [HM.out];refine M_ _ _ _ _ ((JG _ _ _ _).2 fun p hp=> ?_);obtain ⟨j,hj,rfl⟩:=aaZ hp;have:=HA.out j (by omega)
         rwa [aac,aad hj]at this
        go_wp2_with fail;go_ret2;exact ⟨rfl,B1.out.trans (B2.out.mono B1.out.size)⟩
       ·have af:(i:Int)<(c.procs.length:Int):=by omega
        have xw:=hd ((HR.out.below B1.out).below B2.out);have Cz:i<ms.length:=by rw [uz.out];omega
        obtain ⟨b',o',CA,x0⟩:=xw.out.oN _ _ (oy ms i Cz).1
        cases CA
        obtain ⟨b',o',CA,x1⟩:=xw.out.oN _ _ (oy ms i Cz).2
        cases CA
        have jJ:o+(i*2+1)=o+i*2+1:=by omega
        rw [jJ]at x1;have YD:=xw.out.yx (ms.getD i default) (by rw [aac,aad Cz];exact aaG _);have C_:=hd (xw.out.at i);obtain ⟨d0,-,-,-,d4,-,d6⟩:=HC.out wr B2.out;have YE:=hd ((HF.out.kept B1.out).kept B2.out)
        have YF:Hid (∀W,Below wr.heap.size wr W->Calls prog 42 #[.agg #[.int .i64 (ms.getD i default).p.part,.slice (ms.getD i default).a (ms.getD i default).p.code.length (ms.getD i default).c],.int .i64 c.labels.length,.int .i64 c.aF] W fun e w'=>e=.returned (.int .i64 (ji c.labels.length c.aF (c.procs.getD i default)))/\Below W.heap.size W w'):=hd (by
         intro W hW;have:=mayRun_any (ms.getD i default) c.labels.length c.aF W ⟨by omega,by omega⟩ (YD.below hW) (YE.out.kept hW);rw [C_.out]at this⊢
         exact this)
        have HI:Hid (ji c.labels.length c.aF (c.procs.getD i default)≠0->M=(ji c.labels.length c.aF (c.procs.getD i default),7+(i:Int))):=hd (fun bC=>by
         rw [HM.out,Vs _ _ _ 0 i (by omega) HA.out bC]
         simp)
        have HN:Hid (ji c.labels.length c.aF (c.procs.getD i default)=0->∀j,j<i+1->ji c.labels.length c.aF (c.procs.getD j default)=0):=hd (fun hz j hj=>by
         by_cases e:j=i
         ·rw [e];exact hz
         ·exact HA.out j (by omega))
        clear HM HA YD YE xw C_;generalize ji c.labels.length c.aF (c.procs.getD i default)=E at*
        generalize ms.getD i default=m at*
        obtain ⟨⟨part,code⟩,ma,mc⟩:=m;simp only at x0 x1 YF;have hims2:(i:Int)<(c.procs.length:Int):=af;have kY:=aA wr (.cells #[.int .i64 part,.slice ma code.length mc] 38);have KK:=YF.out _ kY;have e0:=(kY.cell (p:=⟨G,0,none⟩) (aaj wr _ d0)).trans d0;have e4:=(kY.cell (p:=⟨G,4,none⟩) (aaj wr _ d4)).trans d4;replace kY:=hd kY;go_upto_region 21 with(go_at_call 42;refine KK.mono ?_;rintro e w5 ⟨rfl,b5⟩;replace b5:=hd b5);replace B2:Hid (Below w1.heap.size w1 w5):=hd (B2.out.trans ((kY.out.trans (b5.out.mono kY.out.size)).mono B2.out.size));clear KK e0 e4 d0 d4 d6 x0 x1 b5 kY;by_cases hE:E=0
        ·subst hE;go_wp2_with fail;go_roundg (gk-1)
         case rel=>exact ⟨i+1,by omega,by go_num,hd (HN.out (by trivial)),B2⟩
         case measure=>omega
        ·have CM:(E==0)=false:=by simpa using hE
         obtain rfl:M=(E,7+(i:Int)):=HI.out hE;have hi7:(i:Int)<=32:=by omega
         go_wp2_with fail;go_ret2;exact ⟨rfl,B1.out.trans (B2.out.mono B1.out.size)⟩
     ·obtain rfl:M=(E,6):=by rw [HM.out,aah hE]
      have CM:(E==0)=false:=by simpa using hE
      go_wp2_with fail;go_ret2;exact ⟨rfl,B1.out.trans (B2.out.mono B1.out.size)⟩
  ·obtain rfl:M=(E2,1):=by rw [HM.out,aah A9]
   have CM:(E2==0)=false:=by simpa using A9
   go_wp2_with fail;go_ret2;exact ⟨rfl,B1.out.trans (B2.out.mono B1.out.size)⟩
 ·obtain rfl:M=((E1:Int),0):=by rw [HM.out,aah QG]
  have CM:((E1:Int)==0)=false:=by simpa using QG
  go_wp2_with fail;go_ret2;exact ⟨rfl,B1.out.trans (B2.out.mono B1.out.size)⟩
structure Gr(w W:World)(a:Option Addr)(n c:Nat)(bs:List Nat):Prop where
 row:Row W 5 1 a n c (eA bs)
 new:∀k,ae a=some k->w.heap.size<=k
 au:Below w.heap.size w W
theorem MF(l:List Nat):∀u∈eA l,u.oneCell'=true:=by
 intro u hu;obtain ⟨x,_,rfl⟩:=List.mem_map.mp hu;rfl
theorem Gr.len(h:Gr w W a n c bs):bs.length=n:=by
 have:=h.row.len;rw [BD]at this;omega
theorem Gr.below(h:Gr w W a n c bs)(hb:Below W.heap.size W W'):Gr w W' a n c bs:=⟨h.row.below hb,h.new,h.au.trans (hb.mono h.au.size)⟩
structure tV(W:World)(a:Option Addr)(W':World)(a':Option Addr):Prop where
 mod:Mod (fun k=>ae a=some k) W W'
 new:∀k,ae a'=some k->ae a=some k\/W.heap.size<=k
theorem tV.refl(W:World)(a:Option Addr):tV W a W a:=⟨Mod.refl _ _,fun _ h=> .inl h⟩
theorem tV.trans{W2:World}{a':Option Addr}(h:tV W a W' a')(k:tV W' a' W2 a2):tV W a W2 a2:=
 ⟨h.mod.trans k.mod h.new,fun i hi=>by
  rcases k.new i hi with h1|h1
  ·exact h.new i h1
  ·exact .inr (aai h.mod.size h1)⟩
theorem Gr.push(h:Gr w W a n c bs)(hn:n<=1000000000)(y:Nat):
 ∃a' c' W',(∀ty,(Builtin.append_ #[66,66] ty #[.slice a n c,.slice (some ⟨W.heap.size,0,none⟩) 1 1]).run prog (W.alloc (.cells #[.int .u8 (y:Int)] 5))=.ok (.slice a' (n+1) c') W')/\Gr w W' a' (n+1) c' (bs++[y])/\tV W a W' a':=by
 obtain ⟨a',c',W',k1,k2,k3,k4⟩:=mX abz JF rfl (by omega) h.row (by omega) [.int .u8 (y:Int)] rfl (MF [y]);refine ⟨a',c',W',k1,⟨?_,fun k hk=> ?_,h.au.trans (k3.below (B:=w.heap.size) h.au.size (fun k _ hk=>h.new k hk))⟩,⟨k3,k4⟩⟩
 ·rw [<-FA];exact k2
 ·rcases k4 k hk with h1|h1
  ·exact h.new k h1
  ·have:=h.au.size;omega
theorem Gr.app(h:Gr w W a n c bs)(hn:n<=1000000000){c2 m:Nat}{ms:List Nat}(hm:Rd W a2 (eA ms))(hl:ms.length=m)(jy:m<=1000000000):
 ∃a' c' W',(∀ty,(Builtin.append_ #[66,66] ty #[.slice a n c,.slice a2 m c2]).run prog W=.ok (.slice a' (n+m) c') W')/\Gr w W' a' (n+m) c' (bs++ms)/\tV W a W' a':=by
 obtain ⟨i,k1,k2,k3,k4⟩:=info_parts JF;have hs:Src prog 1 66 (.slice a2 m c2) m (eA ms) W:=Rd.src hm abz (by rw [BD];omega) (by omega) (MF ms);obtain ⟨a',c',W',m1,m2,m3,m4,_⟩:=mD (P:=prog) _ 66 5 i _ 1 1 abz k1 k2 k3 k4 rfl h.row _ m _ hs (by unfold maxLen;omega) (by omega);refine ⟨a',c',W',m1,⟨?_,fun k hk=> ?_,h.au.trans (m3.below (B:=w.heap.size) h.au.size (fun k _ hk=>h.new k hk))⟩,⟨m3,m4⟩⟩
 ·rw [<-FA];exact m2
 ·rcases m4 k hk with h1|h1
  ·exact h.new k h1
  ·have:=h.au.size;omega
theorem run_append_full{P:Program}(w:World)(t e:TypeId)(i:TypeInfo)(z:Value)(size bytes:Nat)(ht:P.underlying t=some (.slice e))(hi:P.info? e=some i)(hz:i.zero=some z)
 (Ci:i.size=size)(pX:i.bytes=bytes)(gI:z.cells.size=size)
 {a:Addr}{n:Nat}{xs:List Value}(hR:Rd w (some a) xs)(hl:xs.length=n*size)(x:Value)(m:Nat)(hm:0<m)(news:List Value)(hs:Src P size t x m news w)
 (h63:n+m<=maxLen)(B_:(n+m)*bytes<=140737488355328):
 ∃cap' w',(∀ty,(Builtin.append_ #[t,t] ty #[.slice (some a) n n,x]).run P w=.ok (.slice (some ⟨w.heap.size,0,none⟩) (n+m) cap') w')/\Row w' e size (some ⟨w.heap.size,0,none⟩) (n+m) cap' (xs++news)/\Below w.heap.size w w':=by
 subst Ci;have gY:=hs.newsLen;have hold:(Builtin.firstCells i.size n (.slice (some a) n n)).run P w.drew=.ok xs.toArray w.drew:=by
  refine run_firstCells_some _ _ _ _ _ _ _ hl (fun j v hj=> ?_);obtain ⟨b,o,h2,h3⟩:=hR j v hj
  cases h2
  rw [kO];exact h3
 have hg:=fun ty=>run_append_grow_src (P:=P) w t t ty e i z ht hi hz (some a) n n xs hold x m news hs (by omega) (by unfold maxLen at h63;omega) (growslice_fits (by omega) (by rw [pX];exact B_))
 refine ⟨_,_,hg, ?_, ?_⟩
 ·have iP:n+m<=grownCap w (n+m) n e/\grownCap w (n+m) n e<=maxLen:=⟨grownCap_ge w (n+m) n e,grownCap_le_maxLen w (n+m) n e h63⟩;refine ⟨by rw [aal,hl,gY,abq],iP.1,iP.2,.inr ⟨_,_,rfl,aae _ _, ?_, ?_⟩⟩
  ·simp [size_zeroCells,gI,hl,gY];rw [<-abq,<-abq];exact aaI _ (by omega)
  ·simp only [Array.toList_append];rw [aaS (by simp [hl,gY,Nat.add_mul]),aap (by simp [hl,gY,Nat.add_mul])]
 ·exact ((aak _ w).drew).trans (aA w.drew _)
theorem Gr.first{a:Addr}(hR:Rd W (some a) (eA bs))(hl:bs.length=n)(hn:n<=1000000000)(hb:Below w.heap.size w W)(y:Nat):
 ∃a' c' W',(∀ty,(Builtin.append_ #[66,66] ty #[.slice (some a) n n,.slice (some ⟨W.heap.size,0,none⟩) 1 1]).run prog (W.alloc (.cells #[.int .u8 (y:Int)] 5))=.ok (.slice a' (n+1) c') W')/\Gr w W' a' (n+1) c' (bs++[y]):=by
 obtain ⟨i,k1,k2,k3,k4⟩:=info_parts JF;have aH:=aA W (.cells #[.int .u8 (y:Int)] 5);have hh:=aae W (.cells #[.int .u8 (y:Int)] 5);have hs:Src prog 1 66 (.slice (some ⟨W.heap.size,0,none⟩) 1 1) 1 (eA [y]) (W.alloc (.cells #[.int .u8 (y:Int)] 5)):=by
  refine Src.ofSlice _ abz _ _ _ _ rfl (fun j u hj=> ?_) (MF [y]);rw [kO,aaa _ _ _ _ _ _ hh,aaH];simpa [eA]using hj
 obtain ⟨c',W',m1,m2,m3⟩:=run_append_full (P:=prog) _ 66 5 i _ 1 1 abz k1 k2 k3 k4 rfl (n:=n) (hR.below aH) (by rw [BD];omega) _ 1 (by omega) _ hs (by unfold maxLen;omega) (by omega);refine ⟨_,c',W',m1,⟨?_,fun k hk=> ?_,hb.trans ((aH.trans (m3.mono aH.size)).mono hb.size)⟩⟩
 ·rw [<-FA];exact m2
 ·exact aai hb.size (aai aH.size (aaB (aau hk)))
theorem numB_snoc(k v:Nat):cM (k+1) v=cM k v++[v/2^(8*k)% 256]:=by
 unfold cM;rw [abC];simp
theorem DG(h:Gr w W a n c bs)(hn:n<=900000000)(v k:Nat)(hk:k<=8):
 Calls prog 45 #[.slice a n c,.int .u64 (v:Int),.int .i64 (k:Int)] W fun e W'=>∃a' c',e=.returned (.slice a' (n+k) c')/\Gr w W' a' (n+k) c' (bs++cM k v)/\tV W a W' a':=by
 have H:=hd h;clear h;go_enter func45,ntmps45;go_wp2_with fail;go_loopg [0,7,9,10,11,12,13,14,15,16,17,18,19,20] k (fun g v0 _ v9 _ _ _ _ _ _ _ _ _ _ _ wr=>∃(j:Nat) (a':Option Addr) (c':Nat),j+g=k/\v9=.int .i64 (j:Int)/\v0=.slice a' (n+j) c'/\Hid (Gr w wr a' (n+j) c' (bs++cM j v)/\tV W a wr a'))
 case atStart=>exact ⟨0,a,c,by omega,by go_num,rfl,hd ⟨by simpa [cM]using H.out,tV.refl W a⟩⟩
 case round=>
  obtain ⟨j,a',c',hj,rfl,rfl,HG⟩:=hrel;by_cases h0:gk=0
  ·subst h0;obtain rfl:j=k:=by omega
   go_wp2_with fail;go_ret;exact ⟨a',c',rfl,HG.out⟩
  ·have af:(j:Int)<(k:Int):=by omega
   obtain ⟨a2,c2,w2,aO,lJ,yS⟩:=HG.out.1.push (by omega) (v/2^(8*j)% 256);rw [aaQ,<-numB_snoc]at lJ;have HY:Hid ((v/2^(8*j)% 256:Nat)=v/2^(8*j)% 256):=hd rfl;replace lJ:=hd (And.intro lJ (HG.out.2.trans yS));clear yS HG;have ey:(v:Int)/2^(8*j)% 256=((v/2^(8*j)% 256:Nat):Int):=by simp
   generalize v/2^(8*j)% 256=y at*
   replace aO:=hd aO;clear HY;go_wp2_with (at_builtin;refine dZ rfl _ _ _ rfl _ _ _ _ rfl rfl aO.out ?_;clear aO);go_roundg (gk-1)
   case rel=>exact ⟨j+1,a2,c2,by omega,by go_num,rfl,lJ⟩
   case measure=>omega
theorem FR(u:Nat):cM 1 u=[u% 256]:=by simp [cM]
theorem MX[Inhabited α](f:α->List Nat)(l:List α)(i:Nat)(h:i<l.length):(l.take (i+1)).flatMap f=(l.take i).flatMap f++f (l.getD i default):=by
 rw [List.take_add_one,abI,aac,aad h];simp
def rB(c:ak):Nat->List Nat
 |0=>[]
 |1=>cM 2 (u64 c.fuel)
 |2=>cM 2 (u64 c.fuel)++cM 1 (u64 c.lane)
 |3=>cM 2 (u64 c.fuel)++cM 1 (u64 c.lane)++cM 1 (u64 c.aF)
 |_=>cM 2 (u64 c.fuel)++cM 1 (u64 c.lane)++cM 1 (u64 c.aF)++cM 2 (u64 c.log)
def eL(c:ak)(i:Nat):List Nat:=(lL++[c.labels.length])++(c.labels.take i).flatMap (cM 8)
def eT(c:ak)(i:Nat):List Nat:=(eL c c.labels.length++[c.table.length])++(c.table.take i).flatMap (fun x=>cM 1 (u64 x))
def eN(c:ak)(i:Nat):List Nat:=eT c c.table.length++rB c i
def eP(c:ak)(i:Nat):List Nat:=(eN c 4++[c.procs.length])++(c.procs.take i).flatMap yo
theorem Vt(c:ak)(h:(jt c).1=0):eP c c.procs.length=nE c:=by
 obtain ⟨h0,h1,-,-,-,-,h6,-⟩:=(BM c).1 h;have l1:=BT h0;have l2:=JH h1;have l3:=zK h6;unfold eP eN eT eL rB nE;rw [abg,abg,abg,FR c.labels.length,FR c.table.length,FR c.procs.length,Nat.mod_eq_of_lt (show c.labels.length<256 by omega),Nat.mod_eq_of_lt (show c.table.length<256 by omega),Nat.mod_eq_of_lt (show c.procs.length<256 by omega)];simp only [List.append_assoc]
theorem NQ[Inhabited α](f:α->List Nat)(l:List α)(i:Nat):((l.take i).flatMap f).length<=(l.flatMap f).length:=by
 conv=>rhs;rw [<-List.take_append_drop i l]
 rw [abI,aal];omega
theorem Vu(c:ak)(h:(jt c).1=0)(i:Nat):(eP c i).length<=98542:=by
 have h1:=enc_len c h;rw [<-Vt c h]at h1;have h2:=NQ yo c.procs i;unfold eP at h1⊢;rw [abg]at h1;rw [aal]at h1⊢;omega
theorem Vv(c:ak)(h:(jt c).1=0)(i:Nat):(eN c i).length<=98542:=by
 have h1:=Vu c h 0;unfold eP at h1;rw [aal,aal]at h1;have h3:(rB c i).length<=(rB c 4).length:=by
  match i with
  |0=>simp [rB]
  |1=>simp [rB,BL]
  |2=>simp [rB,BL]
  |3=>simp [rB,BL]
  |n+4=>simp [rB]
 unfold eN at h1⊢;rw [aal]at h1⊢;omega
theorem Vw(c:ak)(h:(jt c).1=0)(i:Nat):(eT c i).length<=98542:=by
 have h1:=Vv c h 0;have h2:=NQ (fun x=>cM 1 (u64 x)) c.table i;unfold eN at h1;rw [aal]at h1;unfold eT at h1⊢;rw [abg]at h1;rw [aal]at h1⊢;omega
theorem eL_len(c:ak)(h:(jt c).1=0)(i:Nat):(eL c i).length<=98542:=by
 have h1:=Vw c h 0;have h2:=NQ (cM 8) c.labels i;unfold eT at h1;rw [aal,aal]at h1;unfold eL at h1⊢;rw [abg]at h1;rw [aal]at h1⊢;omega
def Gf(w:World)(c:ak)(e:Ending)(w':World):Prop:=
 ∃a' c',e=.returned (.tuple #[.slice a' (nE c).length c',.int .i64 0])/\Row w' 5 1 a' (nE c).length c' (eA (nE c))/\(∀k,ae a'=some k->w.heap.size<=k)/\Below w.heap.size w w'
theorem rd_byt(h:mI w a bs):Rd w a (eA bs):=fun j u hj=>by
 have hl:j<bs.length:=by
  rcases aaU j bs.length with h|h
  ·exact h
  ·rw [aas (by rw [BD];exact h)]at hj;cases hj
 obtain ⟨b,o,e,hc⟩:=h j hl;refine ⟨b,o,e, ?_⟩;rw [hc,<-hj];simp [eA,List.getD_eq_getElem?_getD,List.getElem?_eq_getElem hl]
theorem may_eight{l:List Ins}{K:Int}(hK:K<=8)(h:(gB l K).1=0):(gB l 8).1=0:=by
 unfold gB at h⊢;split at h
 ·simp at h
 ·rw [aaf (by omega)];split at h
  ·simp at h
  ·next h2=>
   rw [aaf h2];rw [Jd _ _ _ _ (fun j hj=>wrong_more (Mz _ _ _ _ h j hj) (abe _) hK)]
theorem cenc_go(c:ak)(bl ol lc bt ot tc bp op pc:Nat)(ms:List jl)(w:World)(hR:fD w c (⟨some ⟨bl,ol,none⟩,lc,some ⟨bt,ot,none⟩,tc,some ⟨bp,op,none⟩,pc,ms⟩:Loc))(hF:bR w)(hL:eQ w)(hm:(jt c).1=0):
 Calls prog 32 #[.agg #[.slice (some ⟨bl,ol,none⟩) c.labels.length lc,.slice (some ⟨bt,ot,none⟩) c.table.length tc,.int .i64 c.fuel,.int .i64 c.lane,.int .i64 c.aF,.int .i64 c.log,.slice (some ⟨bp,op,none⟩) c.procs.length pc]] w (Gf w c):=by
 obtain ⟨w1,aR⟩:=Haa (w.alloc (.cells #[.slice (some ⟨bl,ol,none⟩) c.labels.length lc,.slice (some ⟨bt,ot,none⟩) c.table.length tc,.int .i64 c.fuel,.int .i64 c.lane,.int .i64 c.aF,.int .i64 c.log,.slice (some ⟨bp,op,none⟩) c.procs.length pc] 26));have B1:Hid (Below w.heap.size w w1):=hd (by rw [<-aR.out];exact aA w _);have HR:=hd (hR.below B1.out);have HF:=hd (hF.kept B1.out);have HL:=hd (hL.kept B1.out);have iG:=Nn c _ w1 HR.out HF.out HL.out;rw [mayC_zero c hm]at iG;have HM:=hd hm;have HK:=hd ((BM c).1 hm);obtain ⟨G,hG⟩:=Haa w.heap.size;have HG:Hid (w1.heap[G]?=some (.cells #[.slice (some ⟨bl,ol,none⟩) c.labels.length lc,.slice (some ⟨bt,ot,none⟩) c.table.length tc,.int .i64 c.fuel,.int .i64 c.lane,.int .i64 c.aF,.int .i64 c.log,.slice (some ⟨bp,op,none⟩) c.procs.length pc] 26 (0,0))):=hd (by rw [<-aR.out,<-hG.out];exact aae w _)
 have HC:Hid (∀W,Below w1.heap.size w1 W->W.cell? ⟨G,0,none⟩=some (.slice (some ⟨bl,ol,none⟩) c.labels.length lc)/\W.cell? ⟨G,1,none⟩=some (.slice (some ⟨bt,ot,none⟩) c.table.length tc)/\W.cell? ⟨G,2,none⟩=some (.int .i64 c.fuel)/\W.cell? ⟨G,3,none⟩=some (.int .i64 c.lane)/\W.cell? ⟨G,4,none⟩=some (.int .i64 c.aF)/\W.cell? ⟨G,5,none⟩=some (.int .i64 c.log)/\W.cell? ⟨G,6,none⟩=some (.slice (some ⟨bp,op,none⟩) c.procs.length pc)):=hd (fun W hW=>by
  have h:W.heap[G]?=_:=(hW.block G (aab.1 HG.out).1).trans HG.out
  exact ⟨aaa W G 0 _ _ _ h,aaa W G 1 _ _ _ h,aaa W G 2 _ _ _ h,aaa W G 3 _ _ _ h,aaa W G 4 _ _ _ h,aaa W G 5 _ _ _ h,aaa W G 6 _ _ _ h⟩)
 have yT:Hid (∀W,Below w1.heap.size w1 W->∀i,i<c.labels.length->W.cell? ⟨bl,ol+i,none⟩=some (.int .u64 ((c.labels.getD i 0:Nat):Int))):=hd (fun W hW i hi=>by
  obtain ⟨b,o,e,hc⟩:=(HR.out.pY.below hW) i _ (FY c.labels i hi)
  cases e
  exact hc)
 have HCT:Hid (∀W,Below w1.heap.size w1 W->∀i,i<c.table.length->W.cell? ⟨bt,ot+i,none⟩=some (.int .i64 (c.table.getD i 0))):=hd (fun W hW i hi=>by
  obtain ⟨b,o,e,hc⟩:=(HR.out.qh.below hW) i _ (rW c.table i hi)
  cases e
  exact hc)
 have HML:=hd HR.out.len;clear hR hF hL hm;unfold ct a_ at iG;simp only at iG;go_enter func32,ntmps32;go_upto_region 1 with fail;rw [aR.out,hG.out];obtain ⟨c0,c1,c2,c3,c4,c5,c6⟩:=HC.out w1 (fk w1);go_upto_region 4 with(go_at_call 23;refine iG.mono ?_;rintro e w2 ⟨rfl,b2⟩;replace b2:=hd b2);clear iG c0 c1 c2 c3 c4 c5 c6;have QH:=Lib.run_convert_bytes_const (P:=prog) w2 66 5 #[.int .u8 70,.int .u8 66,.int .u8 67,.int .u8 70,.int .u8 1] 5 5 abz underlying5;have El:Hid (1<=c.labels.length/\c.labels.length<=8):=hd (BT HK.out.1);have nV:Hid (1<=c.table.length/\c.table.length<=64):=hd (JH HK.out.2.1);have ui:Hid (1<=c.procs.length/\c.procs.length<=32):=hd (by have:=zK HK.out.2.2.2.2.2.2.1;omega);obtain ⟨w3,iH⟩:=Haa (w2.alloc (.cells #[.int .u8 70,.int .u8 66,.int .u8 67,.int .u8 70,.int .u8 1] 5 (5,6)));replace QH:(convert 66 66 (.slice (some ⟨w2.heap.size,0,none⟩) 5 5)).run prog (w2.alloc (.cells #[.int .u8 70,.int .u8 66,.int .u8 67,.int .u8 70,.int .u8 1] 5))=.ok (.slice (some ⟨w2.heap.size,0,none⟩) 5 5) w3:=by rw [<-iH.out];exact QH
 have b3:Hid (Below w1.heap.size w1 w3):=hd (b2.out.trans (by rw [<-iH.out];exact (aA w2 _).mono b2.out.size))
 have YG:Hid (Rd w3 (some ⟨w2.heap.size,0,none⟩) (eA lL)):=hd (fun j u hj=>⟨_,0,rfl,by
  rw [<-iH.out,aaH,aaa _ _ _ _ _ _ (aae w2 _)]
  simpa [eA,lL]using hj⟩)
 obtain ⟨a1,k1,w4,aO,YH⟩:=Gr.first YG.out rfl (by decide) b3.out c.labels.length;replace aO:Hid (∀ty,(Builtin.append_ #[66,66] ty #[.slice (some ⟨w2.heap.size,0,none⟩) 5 5,.slice (some ⟨w3.heap.size,0,none⟩) 1 1]).run prog (w3.alloc (.cells #[.int .u8 (c.labels.length:Int)] 5))=.ok (.slice a1 (5+1) k1) w4):=hd aO;have dY:Hid (Gr w1 w4 a1 6 k1 (eL c 0)):=hd (by simpa [eL,lL]using YH);have ey:(c.labels.length:Int)% 256=(c.labels.length:Int):=by have:=El.out;omega
 obtain ⟨c0,-⟩:=HC.out w3 b3.out;clear YH iH YG b2;go_upto_region 6 with(at_builtin;refine dZ rfl _ _ _ rfl _ _ _ _ rfl rfl aO.out ?_;clear aO);clear c0 ey QH b3;obtain ⟨c0,-⟩:=HC.out w4 dY.out.au;go_upto_block 0 with fail;clear c0;go_wp2_with fail;go_loopg [6,8,38,39,40,41,42,43,44,45] c.labels.length (fun gg v6 _ v38 _ _ _ _ _ _ _ wr=>∃(i n:Nat) (a':Option Addr) (k':Nat),i+gg=c.labels.length/\v38=.int .i64 (i:Int)/\v6=.slice a' n k'/\Hid (Gr w1 wr a' n k' (eL c i)))
 case atStart=>exact ⟨0,6,a1,k1,by omega,by go_num,rfl,dY⟩
 case round=>
  clear dY;obtain ⟨i,n,a1,k1,hi,rfl,rfl,dY⟩:=hrel;have hn:n<=98542:=by have h1:=dY.out.len;have h2:=eL_len c HM.out i;omega
  by_cases h0:gk=0
  ·subst h0;obtain rfl:i=c.labels.length:=by omega
   have dH:decide ((c.labels.length:Int)<(c.labels.length:Int))=false:=by simp
   obtain ⟨c0,c1,-⟩:=HC.out wr dY.out.au;obtain ⟨a2,k2,w5,aO,xy,-⟩:=dY.out.push (by omega) c.table.length;replace aO:=hd aO;have Ie:Hid (Gr w1 w5 a2 (n+1) k2 (eT c 0)):=hd (by simpa [eT]using xy);have ey:(c.table.length:Int)% 256=(c.table.length:Int):=by have:=nV.out;omega
   clear xy dY;go_upto_region 12 with(at_builtin;refine dZ rfl _ _ _ rfl _ _ _ _ rfl rfl aO.out ?_;clear aO);clear ey c0 c1;obtain ⟨c0,c1,-⟩:=HC.out w5 Ie.out.au;go_upto_block 2 with fail;clear c0 c1;go_wp2_with fail;go_loopg [6,10,56,57,58,59,60,61,62,63,64,65] c.table.length (fun gg v6 _ v56 _ _ _ _ _ _ _ _ _ wr=>∃(i n:Nat) (a':Option Addr) (k':Nat),i+gg=c.table.length/\v56=.int .i64 (i:Int)/\v6=.slice a' n k'/\Hid (Gr w1 wr a' n k' (eT c i)))
   case atStart=>exact ⟨0,n+1,a2,k2,by omega,by go_num,rfl,Ie⟩
   case round=>
    clear Ie;obtain ⟨i,n,a1,k1,hi,rfl,rfl,dY⟩:=hrel;have hn:n<=98542:=by have h1:=dY.out.len;have h2:=Vw c HM.out i;omega
    by_cases h0:gk=0
    ·subst h0;obtain rfl:i=c.table.length:=by omega
     have dH:decide ((c.table.length:Int)<(c.table.length:Int))=false:=by simp
     obtain ⟨c0,c1,c2,c3,c4,c5,c6⟩:=HC.out wr dY.out.au;have xu:=Jz c (⟨some ⟨bl,ol,none⟩,lc,some ⟨bt,ot,none⟩,tc,some ⟨bp,op,none⟩,pc,ms⟩:Loc) wr;unfold ct a_ Ld at xu;simp only at xu;go_upto_block 4 with(go_at_call 26;refine xu.mono ?_;rintro e w6 ⟨rfl,b6⟩;replace b6:=hd b6);have YI:Hid (Gr w1 w6 a1 n k1 (eN c 0)):=hd (by simpa [eN,rB]using dY.out.below b6.out);clear xu c0 c1 c2 c3 c4 c5 c6 dY b6;go_wp2_with fail;go_loopg [6,11,12,68,69,70,71,72,73,74,75,76,77,78,79,80] 4 (fun gg v6 _ _ v68 _ _ _ _ _ _ _ _ _ _ _ _ wr=>∃(i n:Nat) (a':Option Addr) (k':Nat),i+gg=4/\v68=.int .i64 (i:Int)/\v6=.slice a' n k'/\Hid (Gr w1 wr a' n k' (eN c i)))
     case atStart=>exact ⟨0,n,a1,k1,by omega,by go_num,rfl,YI⟩
     case round=>
      clear YI;obtain ⟨i,n,a1,k1,hi,rfl,rfl,dY⟩:=hrel;have hn:n<=98542:=by have h1:=dY.out.len;have h2:=Vv c HM.out i;omega
      have hc:i=0\/i=1\/i=2\/i=3\/i=4:=by omega
      rcases hc with rfl|rfl|rfl|rfl|rfl
      ·obtain rfl:gk=4:=by omega
       have ix:∀W,(Instr.index 61 (.agg #[.int .i64 c.fuel,.int .i64 c.lane,.int .i64 c.aF,.int .i64 c.log]) (.int .i64 0)).run prog W=.ok (.int .i64 c.fuel) W:=fun W=>by kernel_rfl
       have y0:=(HL.out.kept dY.out.au) 2 (by omega);simp only [qK,List.getD_cons_zero,List.getD_cons_succ]at y0;have hv:=DW HK.out.2.2.1;have lK:=DG dY.out (by omega) (Go.Proofs.YthopnfbjiifhhaaGreatDoor.u64 c.fuel) 2 (by omega);have eu:((Go.Proofs.YthopnfbjiifhhaaGreatDoor.u64 c.fuel:Nat):Int)=c.fuel:=by unfold Go.Proofs.YthopnfbjiifhhaaGreatDoor.u64;omega
       rw [eu]at lK;have HN:Hid (∀W a2 k2,Gr w1 W a2 (n+2) k2 (eN c 0++cM 2 (Go.Proofs.YthopnfbjiifhhaaGreatDoor.u64 c.fuel))->Gr w1 W a2 (n+2) k2 (eN c 1)):=hd (fun W a2 k2 h=>by simpa [eN,rB]using h);clear eu;go_wp2_with (go_at_call 45;refine lK.mono ?_;rintro e w7 ⟨a2,k2,rfl,mR,-⟩;replace mR:=hd (HN.out _ _ _ mR));go_roundg 3
       case rel=>exact ⟨1,n+2,a2,k2,by omega,rfl,rfl,mR⟩
       case measure=>omega
      ·obtain rfl:gk=3:=by omega
       have ix:∀W,(Instr.index 61 (.agg #[.int .i64 c.fuel,.int .i64 c.lane,.int .i64 c.aF,.int .i64 c.log]) (.int .i64 1)).run prog W=.ok (.int .i64 c.lane) W:=fun W=>by kernel_rfl
       have y0:=(HL.out.kept dY.out.au) 5 (by omega);simp only [qK,List.getD_cons_zero,List.getD_cons_succ]at y0;have hv:=DW HK.out.2.2.2.1;have lK:=DG dY.out (by omega) (Go.Proofs.YthopnfbjiifhhaaGreatDoor.u64 c.lane) 1 (by omega);have eu:((Go.Proofs.YthopnfbjiifhhaaGreatDoor.u64 c.lane:Nat):Int)=c.lane:=by unfold Go.Proofs.YthopnfbjiifhhaaGreatDoor.u64;omega
       rw [eu]at lK;have HN:Hid (∀W a2 k2,Gr w1 W a2 (n+1) k2 (eN c 1++cM 1 (Go.Proofs.YthopnfbjiifhhaaGreatDoor.u64 c.lane))->Gr w1 W a2 (n+1) k2 (eN c 2)):=hd (fun W a2 k2 h=>by simpa [eN,rB]using h);clear eu;go_wp2_with (go_at_call 45;refine lK.mono ?_;rintro e w7 ⟨a2,k2,rfl,mR,-⟩;replace mR:=hd (HN.out _ _ _ mR));go_roundg 2
       case rel=>exact ⟨2,n+1,a2,k2,by omega,rfl,rfl,mR⟩
       case measure=>omega
      ·obtain rfl:gk=2:=by omega
       have ix:∀W,(Instr.index 61 (.agg #[.int .i64 c.fuel,.int .i64 c.lane,.int .i64 c.aF,.int .i64 c.log]) (.int .i64 2)).run prog W=.ok (.int .i64 c.aF) W:=fun W=>by kernel_rfl
       have y0:=(HL.out.kept dY.out.au) 8 (by omega);simp only [qK,List.getD_cons_zero,List.getD_cons_succ]at y0;have hv:=DW HK.out.2.2.2.2.1;have lK:=DG dY.out (by omega) (Go.Proofs.YthopnfbjiifhhaaGreatDoor.u64 c.aF) 1 (by omega);have eu:((Go.Proofs.YthopnfbjiifhhaaGreatDoor.u64 c.aF:Nat):Int)=c.aF:=by unfold Go.Proofs.YthopnfbjiifhhaaGreatDoor.u64;omega
       rw [eu]at lK;have HN:Hid (∀W a2 k2,Gr w1 W a2 (n+1) k2 (eN c 2++cM 1 (Go.Proofs.YthopnfbjiifhhaaGreatDoor.u64 c.aF))->Gr w1 W a2 (n+1) k2 (eN c 3)):=hd (fun W a2 k2 h=>by simpa [eN,rB]using h);clear eu;go_wp2_with (go_at_call 45;refine lK.mono ?_;rintro e w7 ⟨a2,k2,rfl,mR,-⟩;replace mR:=hd (HN.out _ _ _ mR));go_roundg 1
       case rel=>exact ⟨3,n+1,a2,k2,by omega,rfl,rfl,mR⟩
       case measure=>omega
      ·obtain rfl:gk=1:=by omega
       have ix:∀W,(Instr.index 61 (.agg #[.int .i64 c.fuel,.int .i64 c.lane,.int .i64 c.aF,.int .i64 c.log]) (.int .i64 3)).run prog W=.ok (.int .i64 c.log) W:=fun W=>by kernel_rfl
       have y0:=(HL.out.kept dY.out.au) 11 (by omega);simp only [qK,List.getD_cons_zero,List.getD_cons_succ]at y0;have hv:=DW HK.out.2.2.2.2.2.1;have lK:=DG dY.out (by omega) (Go.Proofs.YthopnfbjiifhhaaGreatDoor.u64 c.log) 2 (by omega);have eu:((Go.Proofs.YthopnfbjiifhhaaGreatDoor.u64 c.log:Nat):Int)=c.log:=by unfold Go.Proofs.YthopnfbjiifhhaaGreatDoor.u64;omega
       rw [eu]at lK;have HN:Hid (∀W a2 k2,Gr w1 W a2 (n+2) k2 (eN c 3++cM 2 (Go.Proofs.YthopnfbjiifhhaaGreatDoor.u64 c.log))->Gr w1 W a2 (n+2) k2 (eN c 4)):=hd (fun W a2 k2 h=>by simpa [eN,rB]using h);clear eu;go_wp2_with (go_at_call 45;refine lK.mono ?_;rintro e w7 ⟨a2,k2,rfl,mR,-⟩;replace mR:=hd (HN.out _ _ _ mR));go_roundg 0
       case rel=>exact ⟨4,n+2,a2,k2,by omega,rfl,rfl,mR⟩
       case measure=>omega
      ·obtain rfl:gk=0:=by omega
       obtain ⟨c0,c1,c2,c3,c4,c5,c6⟩:=HC.out wr dY.out.au;obtain ⟨a2,k2,w7,aO,mR,-⟩:=dY.out.push (by omega) c.procs.length;replace aO:=hd aO;have QI:Hid (Gr w1 w7 a2 (n+1) k2 (eP c 0)):=hd (by simpa [eP]using mR);have ey:(c.procs.length:Int)% 256=(c.procs.length:Int):=by have:=ui.out;omega
       clear mR dY;go_upto_region 23 with(at_builtin;refine dZ rfl _ _ _ rfl _ _ _ _ rfl rfl aO.out ?_;clear aO);clear ey c0 c1 c2 c3 c4 c5 c6;obtain ⟨-,-,-,-,-,-,c6⟩:=HC.out w7 QI.out.au;go_upto_block 6 with fail;clear c6;go_wp2_with fail;go_loopg [6,14,15,16,17,91,92,93,94,95,96,97,98,99,100,101,102,103,104,105,106,107,108,109,110,111,112,113,114,115,116,117] c.procs.length (fun gg v6 _ _ _ _ v91 _ _ _ _ _ _ _ _ _ _ _ _ _ _ _ _ _ _ _ _ _ _ _ _ _ _ wr=>∃(i n:Nat) (a':Option Addr) (k':Nat),i+gg=c.procs.length/\v91=.int .i64 (i:Int)/\v6=.slice a' n k'/\Hid (Gr w1 wr a' n k' (eP c i)))
       case atStart=>exact ⟨0,n+1,a2,k2,by omega,by go_num,rfl,QI⟩
       case round=>
        clear QI;obtain ⟨i,n,a1,k1,hi,rfl,rfl,dY⟩:=hrel;have hn:n<=98542:=by have h1:=dY.out.len;have h2:=Vu c HM.out i;omega
        by_cases h0:gk=0
        ·subst h0;obtain rfl:i=c.procs.length:=by omega
         have dH:decide ((c.procs.length:Int)<(c.procs.length:Int))=false:=by simp
         have HE:Hid (Gf w c (.returned (.tuple #[.slice a1 n k1,.int .i64 0])) wr):=hd (by
          have h1:=dY.out.len;have h2:=dY.out.row;rw [Vt c HM.out]at h1 h2
          refine ⟨a1,k1,by rw [h1],by rw [h1];exact h2,fun k hk=>aai B1.out.size (dY.out.new k hk),B1.out.trans (dY.out.au.mono B1.out.size)⟩)
         go_wp2_with fail;go_ret2;exact HE.out
        ·have af:(i:Int)<(c.procs.length:Int):=by omega
         have YJ:(i:Int)<32:=by have:=ui.out;omega
         have Cz:i<ms.length:=by rw [HML.out];omega
         have xw:=hd (HR.out.below dY.out.au);obtain ⟨b',o',CA,x0⟩:=xw.out.oN _ _ (oy ms i Cz).1
         cases CA
         obtain ⟨b',o',CA,x1⟩:=xw.out.oN _ _ (oy ms i Cz).2
         cases CA
         have jJ:op+(i*2+1)=op+i*2+1:=by omega
         rw [jJ]at x1;have YK:=hd (HR.out.yx (ms.getD i default) (by rw [aac,aad Cz];exact aaG _));have C_:=hd (xw.out.at i);simp only at C_;have QJ:=hd (HK.out.2.2.2.2.2.2.2 (c.procs.getD i default) (by rw [aac,aad (show i<c.procs.length by omega)];exact aaG _));rw [<-C_.out]at QJ
         have HN:Hid (∀W a2 k2 m,Gr w1 W a2 m k2 (eP c i++yo (ms.getD i default).p)->Gr w1 W a2 m k2 (eP c (i+1))):=hd (fun W a2 k2 m h=>by
          rw [C_.out]at h;unfold eP at h⊢;rw [MX yo c.procs i (by omega),<-aaQ]
          exact h)
         clear C_ xw jJ;generalize ms.getD i default=m at*
         obtain ⟨⟨part,code⟩,ma,mc⟩:=m;simp only at x0 x1 YK QJ HN
         have QK:Hid ((gB code 8).1=0/\0<=part/\part<8):=hd (by
          have h1:=QJ.out;have h2:=El.out;have h3:=DW HK.out.2.2.2.2.1;unfold ji at h1;split at h1
          ·simp at h1
          ·next h4=>
           have h5:=DW (by simpa using h4)
           exact ⟨may_eight h3.2 h1,h5.1,by omega⟩)
         have bZ:code.length<=256:=UC QK.out.1;go_upto_region 26 with fail;obtain ⟨wa,cW⟩:=Haa (wr.alloc (.cells #[.int .i64 part,.slice ma code.length mc] 38));rw [cW.out];have ba:Hid (Below wr.heap.size wr wa):=hd (by rw [<-cW.out];exact aA wr _);have uA:Hid (wa.heap[wr.heap.size]?=some (.cells #[.int .i64 part,.slice ma code.length mc] 38 (0,0))):=hd (by rw [<-cW.out];exact aae wr _);have QM:Hid (∀k,ae a1=some k->k<wr.heap.size):=hd dY.out.row.lt;replace dY:=hd (dY.out.below ba.out);obtain ⟨Bp,G6⟩:=Haa wr.heap.size;rw [G6.out]at uA QM⊢;clear cW ba G6 x0 x1;obtain ⟨a2,k2,wb,aO,qX,oW⟩:=dY.out.push (by omega) (Go.Proofs.YthopnfbjiifhhaaGreatDoor.u64 part% 256);have ey:part% 256=((Go.Proofs.YthopnfbjiifhhaaGreatDoor.u64 part% 256:Nat):Int):=by unfold Go.Proofs.YthopnfbjiifhhaaGreatDoor.u64;have:=QK.out;omega
         have HY:Hid (cM 1 (Go.Proofs.YthopnfbjiifhhaaGreatDoor.u64 part)=[Go.Proofs.YthopnfbjiifhhaaGreatDoor.u64 part% 256]):=hd (FR _);have EA:Hid (wb.heap[Bp]?=some (.cells #[.int .i64 part,.slice ma code.length mc] 38 (0,0))):=hd ((oW.mod.block Bp (aab.1 uA.out).1 (fun e=>by have:=QM.out Bp e;omega)).trans uA.out);have y0:=aaa wa Bp 0 _ _ _ uA.out;simp at y0;replace aO:=hd aO;have HW:Hid (∀v,Calls prog 45 #[.slice a2 (n+1) k2,.int .u64 ((v:Nat):Int),.int .i64 2] wb fun e W'=>∃a' c',e=.returned (.slice a' (n+1+2) c')/\Gr w1 W' a' (n+1+2) c' ((eP c i++[Go.Proofs.YthopnfbjiifhhaaGreatDoor.u64 part% 256])++cM 2 v)/\tV wb a2 W' a'):=hd (fun v=>DG qX (by omega) v 2 (by omega));replace oW:=hd oW;generalize Go.Proofs.YthopnfbjiifhhaaGreatDoor.u64 part% 256=y at*
         clear qX dY;go_upto_region 27 with(at_builtin;refine dZ rfl _ _ _ rfl _ _ _ _ rfl rfl aO.out ?_;clear aO);have z1:=aaa wb Bp 1 _ _ _ EA.out;simp at z1;have lK:=HW.out code.length;clear y0 ey HW;go_upto_region 28 with(go_at_call 45;refine lK.mono ?_;rintro e wc ⟨a3,k3,rfl,o_,Da⟩;replace o_:=hd o_;replace Da:=hd Da)
         have HBc:Hid (wc.heap[Bp]?=some (.cells #[.int .i64 part,.slice ma code.length mc] 38 (0,0))):=hd ((Da.out.mod.block Bp (aab.1 EA.out).1 (fun e=>by
          rcases oW.out.new Bp e with h1|h1
          ·have:=QM.out Bp h1;omega
          ·have:=(aab.1 uA.out).1;omega)).trans EA.out)
         have z2:=aaa wc Bp 1 _ _ _ HBc.out;simp at z2;have qw:=encode_ok ma mc code wc (MW (YK.out.below o_.out.au)) (HF.out.kept o_.out.au) QK.out.1;clear lK z1;go_upto_region 29 with(go_at_call 46;refine qw.mono ?_;rintro e wd ⟨gx,kx,rfl,Pp,bd⟩;replace Pp:=hd Pp;replace bd:=hd bd);obtain ⟨a4,k4,we,mh,dH,-⟩:=(o_.out.below bd.out).app (by omega) (rd_byt (byt_of_owns Pp.out).1) (c2:=kx) (by rw [TY]) (by omega)
         have HGe:Hid (Gr w1 we a4 (n+1+2+12*code.length) k4 (eP c (i+1))):=hd (HN.out _ _ _ _ (by
          rw [yo,HY.out]
          simpa [List.append_assoc]using dH))
         replace mh:=hd mh;clear dH z2 qw;go_wp2_with (at_builtin;refine dZ rfl _ _ _ rfl _ _ _ _ rfl rfl mh.out ?_;clear mh);go_roundg (gk-1)
         case rel=>exact ⟨i+1,n+1+2+12*code.length,a4,k4,by omega,by go_num,rfl,HGe⟩
         case measure=>omega
    ·have af:(i:Int)<(c.table.length:Int):=by omega
     have YJ:(i:Int)<64:=by have:=nV.out;omega
     have x0:=HCT.out wr dY.out.au i (by omega)
     have HX:Hid (0<=c.table.getD i 0/\c.table.getD i 0<8):=hd (by
      have h1:=HK.out.2.1;have h2:=El.out;unfold oD at h1;split at h1
      ·simp at h1
      ·split at h1
       ·simp at h1
       ·split at h1
        ·next h3=>
         have h4:=Vr h3 i (by omega);rw [tP,Bool.and_eq_true,decide_eq_true_eq,decide_eq_true_eq]at h4;omega
        ·simp at h1)
     obtain ⟨a2,k2,w5,aO,xy,-⟩:=dY.out.push (by omega) (Go.Proofs.YthopnfbjiifhhaaGreatDoor.u64 (c.table.getD i 0)% 256)
     have Ie:Hid (Gr w1 w5 a2 (n+1) k2 (eT c (i+1))):=hd (by
      unfold eT at xy⊢;rw [MX (fun x=>cM 1 (Go.Proofs.YthopnfbjiifhhaaGreatDoor.u64 x)) c.table i (by omega),FR,<-aaQ]
      exact xy)
     have ey:c.table.getD i 0% 256=((Go.Proofs.YthopnfbjiifhhaaGreatDoor.u64 (c.table.getD i 0)% 256:Nat):Int):=by unfold Go.Proofs.YthopnfbjiifhhaaGreatDoor.u64;have:=HX.out;omega
     replace aO:=hd aO;generalize Go.Proofs.YthopnfbjiifhhaaGreatDoor.u64 (c.table.getD i 0)% 256=y at*
     generalize c.table.getD i 0=x at*
     clear xy dY HX;go_wp2_with (at_builtin;refine dZ rfl _ _ _ rfl _ _ _ _ rfl rfl aO.out ?_;clear aO);go_roundg (gk-1)
     case rel=>exact ⟨i+1,n+1,a2,k2,by omega,by go_num,rfl,Ie⟩
     case measure=>omega
  ·have af:(i:Int)<(c.labels.length:Int):=by omega
   have YJ:(i:Int)<8:=by have:=El.out;omega
   have x0:=yT.out wr dY.out.au i (by omega);have lK:=DG dY.out (by omega) (c.labels.getD i 0) 8 (by omega)
   have HN:Hid (∀W a2 k2,Gr w1 W a2 (n+8) k2 (eL c i++cM 8 (c.labels.getD i 0))->Gr w1 W a2 (n+8) k2 (eL c (i+1))):=hd (fun W a2 k2 h=>by
    unfold eL at h⊢;rw [MX (cM 8) c.labels i (by omega),<-aaQ]
    exact h)
   generalize c.labels.getD i 0=x at*
   go_wp2_with (go_at_call 45;refine lK.mono ?_;rintro e w5 ⟨a2,k2,rfl,xy,-⟩;replace xy:=hd (HN.out _ _ _ xy));go_roundg (gk-1)
   case rel=>exact ⟨i+1,n+8,a2,k2,by omega,by go_num,rfl,xy⟩
   case measure=>omega
theorem cenc_ok(c:ak)(g:Loc)(w:World)(hR:fD w c g)(hF:bR w)(hL:eQ w)(hm:(jt c).1=0):
 Calls prog 32 #[ct c g] w (Gf w c):=by
 obtain ⟨h0,h1,-,-,-,-,h6,-⟩:=(BM c).1 hm;have l1:=BT h0;have l2:=JH h1;have l3:=zK h6;obtain ⟨bl,ol,e1,-⟩:=N_ hR.pY (by omega);obtain ⟨bt,ot,e2,-⟩:=Og hR.qh (by omega);obtain ⟨bp,op,e3,-⟩:=hR.oN _ _ (oy g.ms 0 (by rw [hR.len];omega)).1;obtain ⟨la,lc,ta,tc,pa,pc,ms⟩:=g;simp only at e1 e2 e3;subst e1 e2 e3;exact cenc_go c bl ol lc bt ot tc bp op pc ms w hR hF hL hm
end Go.Proofs.YthopnfbjiifhhaaGreatDoor
