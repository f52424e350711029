/- Instructions: which may be, and as bytes, over whole numbers. -/
import Derived.Test.YthopnfbjiifhhaaGreatDoorA0
import Derived.Test.YthopnfbjiifhhaaGreatDoorProg
import Derived.WalkSpells
import Derived.WalkLawsBesides
import Derived.BigQuiet
set_option maxHeartbeats 1000000
set_option maxRecDepth 100000
namespace Go.Proofs.YthopnfbjiifhhaaGreatDoor
open Go.RowKit Go.Proofs.Tryz
structure Ins where
 op:Int
 a:Int
 b:Int
 c:Int
 dn:Int
def hA(o:Int):Bool:=(decide (1<=o)&&decide (o<=21))||(decide (23<=o)&&decide (o<=28))||(decide (31<=o)&&decide (o<=33))
def hB(o:Int):Bool:=(decide (2<=o)&&decide (o<=21))||(decide (24<=o)&&decide (o<=26))
def hC(o:Int):Bool:=(decide (3<=o)&&decide (o<=19))||decide (o=24)
def hI(o:Int):Bool:=decide (o=1)||(decide (22<=o)&&decide (o<=23))||(decide (29<=o)&&decide (o<=30))
def cV(r:Int)(h:Bool):Int:=if h=true then(if 0<=r/\r<8 then 0 else 10)else(if r=0 then 0 else 11)
def kn(o i n k:Int):Int:=
 if hI o=true then(if o=22\/o=23 then(if 0<=i/\i<=n then 0 else 12)else if o=29\/o=30 then(if 0<=i/\i<k then 0 else 13)else 0)else if i=0 then 0 else 11
def wrong(x:Ins)(n k:Int):Int×Int:=
 if¬(0<=x.op/\x.op<34)then(9,0)else
 if cV x.a (hA x.op)≠0 then(cV x.a (hA x.op),1)else
 if cV x.b (hB x.op)≠0 then(cV x.b (hB x.op),2)else
 if cV x.c (hC x.op)≠0 then(cV x.c (hC x.op),3)else
 if kn x.op x.dn n k≠0 then(kn x.op x.dn n k,4)else(0,0)
def m_(n k:Int):List Ins->Int->Int×Int
 |[],_=>(0,0)
 |x::r,i=>if(wrong x n k).1≠0 then((wrong x n k).1,i)else m_ n k r (i+1)
def gB(l:List Ins)(k:Int):Int×Int:=
 if¬(0<=k/\k<=8)then(1,0)else if 256<l.length then(3,256)else m_ l.length k l 0
instance:Inhabited Ins:=⟨⟨0,0,0,0,0⟩⟩
theorem Tm(n k:Int):∀(l:List Ins) (s:Int) (i:Nat),i<l.length->(∀j,j<i->(wrong (l.getD j default) n k).1=0)->(wrong (l.getD i default) n k).1≠0->m_ n k l s=((wrong (l.getD i default) n k).1,s+i)
 |[],_,i,h,_,_=>absurd h (aao i)
 |x::r,s,0,_,_,h=>by
  have h':(wrong x n k).1≠0:=by simpa using h
  simp only [m_,if_pos h',List.getD_cons_zero];simp
 |x::r,s,i+1,hi,hb,h=>by
  have h0:¬(wrong x n k).1≠0:=by
   have:=hb 0 (by omega);simpa using this
  have ih:=Tm n k r (s+1) i (by simpa using hi) (fun j hj=>by simpa using hb (j+1) (by omega)) (by simpa using h);simp only [m_,if_neg h0,ih,List.getD_cons_succ,Prod.mk.injEq,true_and];omega
theorem Jd(n k:Int):∀(l:List Ins) (s:Int),(∀j,j<l.length->(wrong (l.getD j default) n k).1=0)->m_ n k l s=(0,0)
 |[],_,_=>rfl
 |x::r,s,hb=>by
  have h0:¬(wrong x n k).1≠0:=by
   have:=hb 0 (by simp);simpa using this
  simp only [m_,if_neg h0];exact Jd n k r (s+1) (fun j hj=>by simpa using hb (j+1) (by simpa using hj))
theorem Mz(n k:Int):∀(l:List Ins) (s:Int),(m_ n k l s).1=0->∀j,j<l.length->(wrong (l.getD j default) n k).1=0
 |[],_,_,j,hj=>absurd hj (aao j)
 |x::r,s,h,j,hj=>by
  by_cases h0:(wrong x n k).1≠0
  ·simp only [m_,if_pos h0]at h;exact absurd h h0
  ·simp only [m_,if_neg h0]at h
   cases j with
   |zero=>simpa using h0
   |succ j=>simpa using Mz n k r (s+1) h j (by simpa using hj)
def b8(z:Int):Nat:=(z% 256).toNat
def u64(z:Int):Nat:=(z% 18446744073709551616).toNat
def JV(z:Int)(j:Nat):Nat:=u64 z/2^(8*j)% 256
def Ct(x:Ins):List Nat:=[b8 x.op,b8 x.a,b8 x.b,b8 x.c]++(List.range 8).map (JV x.dn)
def tN(l:List Ins):List Nat:=l.flatMap Ct
theorem insB_len(x:Ins):(Ct x).length=12:=by simp [Ct]
theorem TY(l:List Ins):(tN l).length=12*l.length:=by
 induction l with
 |nil=>rfl
 |cons x r ih=>simp only [tN,List.flatMap_cons,List.length_append,insB_len,List.length_cons]at*;omega
theorem encB_snoc(l:List Ins)(x:Ins):tN (l++[x])=tN l++Ct x:=by simp [tN]
def gD(bs:List Nat)(at_:Nat):Nat->Nat
 |0=>0
 |j+1=>gD bs at_ j+bs.getD (at_+j) 0*2^(8*j)
def fc(bs:List Nat)(p:Nat):Ins:=⟨bs.getD p 0,bs.getD (p+1) 0,bs.getD (p+2) 0,bs.getD (p+3) 0,wrap64 (gD bs (p+4) 8)⟩
def nC(bs:List Nat)(n:Nat):Nat->Nat->Int×Int
 |_,0=>(0,0)
 |i,m+1=>if(wrong (fc bs (12*i)) n 8).1≠0 then((wrong (fc bs (12*i)) n 8).1,12*i+(wrong (fc bs (12*i)) n 8).2)else nC bs n (i+1) m
def je(bs:List Nat):Int×Int:=
 if 3072<bs.length then(3,3072)else if bs.length% 12≠0 then(5,bs.length)else nC bs (bs.length/12) 0 (bs.length/12)
def Cu(bs:List Nat)(n:Nat):List Ins:=(List.range n).map fun i=>fc bs (12*i)
theorem UB(bs:List Nat)(n:Nat):∀(m s i:Nat),i<m->(∀j,j<i->(wrong (fc bs (12*(s+j))) n 8).1=0)->(wrong (fc bs (12*(s+i))) n 8).1≠0->nC bs n s m=((wrong (fc bs (12*(s+i))) n 8).1,12*((s+i:Nat):Int)+(wrong (fc bs (12*(s+i))) n 8).2)
 |0,_,i,h,_,_=>absurd h (aao i)
 |m+1,s,0,_,_,h=>by simp only [nC,Nat.add_zero]at*;rw [aah h]
 |m+1,s,i+1,hi,hb,h=>by
  have h0:=hb 0 (by omega);have ih:=UB bs n m (s+1) i (by omega) (fun j hj=>by have:=hb (j+1) (by omega);rwa [show s+1+j=s+(j+1) by omega]) (by rwa [show s+1+i=s+(i+1) by omega]);simp only [Nat.add_zero]at h0;simp only [nC,h0,ne_eq,not_true,if_false];rw [ih,show s+1+i=s+(i+1) by omega]
theorem Tn(bs:List Nat)(n:Nat):∀(m s:Nat),(∀j,j<m->(wrong (fc bs (12*(s+j))) n 8).1=0)->nC bs n s m=(0,0)
 |0,_,_=>rfl
 |m+1,s,hb=>by
  have h0:=hb 0 (by omega);simp only [Nat.add_zero]at h0;simp only [nC,h0,ne_eq,not_true,if_false];exact Tn bs n m (s+1) (fun j hj=>by have:=hb (j+1) (by omega);rwa [show s+1+j=s+(j+1) by omega])
theorem TZ(bs:List Nat)(n:Nat):(Cu bs n).length=n:=by simp [Cu]
theorem decL_at(bs:List Nat)(n j:Nat)(h:j<n):(Cu bs n).getD j default=fc bs (12*j):=by simp [Cu,List.getD_eq_getElem?_getD,h]
variable{x:Ins}{n k:Int}{a b:Bool}
theorem T3(h:(wrong x n k).1=0):0<=x.op/\x.op<34/\cV x.a (hA x.op)=0/\cV x.b (hB x.op)=0/\cV x.c (hC x.op)=0/\kn x.op x.dn n k=0:=by
 unfold wrong at h;split at h
 ·simp at h
 ·next h1=>
  split at h
  ·next h2=>exact absurd h h2
  ·next h2=>
   split at h
   ·next h3=>exact absurd h h3
   ·next h3=>
    split at h
    ·next h4=>exact absurd h h4
    ·next h4=>
     split at h
     ·next h5=>exact absurd h h5
     ·next h5=>simp only [ne_eq,Decidable.not_not]at*;exact ⟨h1.1,h1.2,h2,h3,h4,h5⟩
theorem Sv(x:Ins)(n k:Int):0<=(wrong x n k).2/\(wrong x n k).2<=4:=by
 unfold wrong;repeat' split
 all_goals simp
theorem hd{p:Prop}(h:p):Hid p:=h
theorem DM(h:a=b):Ending.returned (.bool a)=.returned (.bool b):=by rw [h]
theorem FV{k:IntKind}{a b:Int}(h:a=b):Ending.returned (.int k a)=.returned (.int k b):=by rw [h]
def dC(x:Ins):Value:=.agg #[.int .i64 x.op,.int .i64 x.a,.int .i64 x.b,.int .i64 x.c,.int .i64 x.dn]
theorem BI(o:Int)(w:World):
 Calls prog 134 #[.int .i64 o] w fun e w'=>e=.returned (.bool (decide (0<=o)&&decide (o<34)))/\w'=w:=by
 by_cases h1:0<=o
 ·by_cases h2:o<34
  ·go_enter func134,ntmps134
   go_wp2
   go_ret;exact ⟨DM (by simp [h1,h2]),rfl⟩
  ·have d2:decide (o<34)=false:=by simpa using h2
   go_enter func134,ntmps134
   go_wp2
   go_ret;exact ⟨rfl,rfl⟩
 ·have d1:decide (0<=o)=false:=by simpa using h1
  go_enter func134,ntmps134
  go_wp2
  go_ret;exact ⟨rfl,rfl⟩
theorem SM(v:Int)(w:World):
 Calls prog 170 #[.int .i64 v] w fun e w'=>e=.returned (.int .i64 (if v=0 then 0 else 11))/\w'=w:=by
 by_cases h1:v=0
 ·subst h1;go_enter func170,ntmps170
  go_wp2
  go_ret;exact ⟨FV (by simp),rfl⟩
 ·have d1:(v==0)=false:=by simpa using h1
  go_enter func170,ntmps170
  go_wp2
  go_ret;exact ⟨rfl,rfl⟩
theorem pI(r:Int)(h:Bool)(w:World):
 Calls prog 136 #[.int .i64 r,.bool h] w fun e w'=>e=.returned (.int .i64 (cV r h))/\w'=w:=by
 cases h
 ·have hu:=SM r;have e0:cV r false=if r=0 then 0 else 11:=by simp [cV]
  rw [e0];obtain ⟨E,hE⟩:∃E:Int,(if r=0 then 0 else 11)=E:=⟨_,rfl⟩;rw [hE]at hu⊢;clear hE e0;go_enter func136,ntmps136;go_wp2_with (go_at_call 170;refine (hu _).mono ?_;rintro e w1 ⟨rfl,rfl⟩);go_ret;exact ⟨rfl,rfl⟩
 ·by_cases h1:r<0
  ·go_enter func136,ntmps136
   go_wp2
   go_ret;exact ⟨FV (by simp [cV];omega),rfl⟩
  ·have d1:decide (r<0)=false:=by simpa using h1
   by_cases h2:8<=r
   ·go_enter func136,ntmps136
    go_wp2
    go_ret;exact ⟨FV (by simp [cV];omega),rfl⟩
   ·have d2:decide (8<=r)=false:=by simpa using h2
    go_enter func136,ntmps136
    go_wp2
    go_ret;exact ⟨FV (by simp [cV];omega),rfl⟩
def zZ:List Int:=[0,9,3,7,7,7,7,7,7,7,7,7,7,7,7,7,7,7,7,7,3,3,8,9,7,3,3,1,1,8,8,1,1,1]
def bR(w:World):Prop:=∀i,i<34->w.cell? ⟨1,i,none⟩=some (.int .u8 (zZ.getD i 0))
theorem bR.kept{w w':World}(h:bR w)(hb:Below w.heap.size w w'):bR w':=fun i hi=>(hb.cell (aaj w _ (h i hi))).trans (h i hi)
theorem bitA:∀o:Nat,o<34->(bits .and .u8 (zZ.getD o 0) 1==0)= !hA o:=by decide+kernel
theorem bitB:∀o:Nat,o<34->(bits .and .u8 (zZ.getD o 0) 2==0)= !hB o:=by decide+kernel
theorem bitC:∀o:Nat,o<34->(bits .and .u8 (zZ.getD o 0) 4==0)= !hC o:=by decide+kernel
theorem bitI:∀o:Nat,o<34->(bits .and .u8 (zZ.getD o 0) 8==0)= !hI o:=by decide+kernel
theorem has_none{o:Int}(h:¬(0<=o/\o<34)):hA o=false/\hB o=false/\hC o=false/\hI o=false:=by
 refine ⟨?_, ?_, ?_, ?_⟩<;>simp [hA,hB,hC,hI]<;>omega
theorem My{fn:Func}{t u v x:Tmp}(h:fn.results=#[.tmp t,.tmp u,.tmp v,.tmp x])(tmps:Array Value)(P:Program)(w:World):
 (results fn tmps).run P w=.ok (.tuple #[tmps.getD t undef,tmps.getD u undef,tmps.getD v undef,tmps.getD x undef]) w:=by
 simp [results,h]
theorem ret_bools{c d a' b' c' d':Bool}(h1:a=a')(h2:b=b')(h3:c=c')(h4:d=d'):Ending.returned (.tuple #[.bool a,.bool b,.bool c,.bool d])=.returned (.tuple #[.bool a',.bool b',.bool c',.bool d']):=by rw [h1,h2,h3,h4]
theorem Fy(o:Int)(w:World)(hF:bR w):
 Calls prog 135 #[.int .i64 o] w fun e w'=>e=.returned (.tuple #[.bool (hA o),.bool (hB o),.bool (hC o),.bool (hI o)])/\w'=w:=by
 have hk:=BI o;by_cases h:0<=o/\o<34
 ·obtain ⟨n,rfl⟩:=abp h.1;have hn:n<34:=by omega
  rw [show(decide (0<=(n:Int))&&decide ((n:Int)<34))=true by simp;omega]at hk;have hc:=hF n hn;have ea:=bitA n hn;have eb:=bitB n hn;have ec:=bitC n hn;have ei:=bitI n hn;generalize zZ.getD n 0=t at hc ea eb ec ei;generalize hA (n:Int)=A at ea⊢;generalize hB (n:Int)=B at eb⊢;generalize hC (n:Int)=C at ec⊢;generalize hI (n:Int)=I at ei⊢;clear hF h;go_enter func135,ntmps135;go_wp2_with (go_at_call 134;refine (hk _).mono ?_;rintro e w1 ⟨rfl,rfl⟩)
  (try simp only [Exit.inBlock,Exit.then]);refine aar (My rfl _ _ _) rfl ?_
  exact ⟨ret_bools (by simp [bne,ea]) (by simp [bne,eb]) (by simp [bne,ec]) (by simp [bne,ei]),rfl⟩
 ·obtain ⟨e1,e2,e3,e4⟩:=has_none h;rw [show(decide (0<=o)&&decide (o<34))=false by simpa using h]at hk;rw [e1,e2,e3,e4];clear e1 e2 e3 e4 h;go_enter func135,ntmps135;go_wp2_with (go_at_call 134;refine (hk _).mono ?_;rintro e w1 ⟨rfl,rfl⟩)
  (try simp only [Exit.inBlock,Exit.then]);refine aar (My rfl _ _ _) rfl ?_
  exact ⟨rfl,rfl⟩
theorem Fz(o a b c i n k:Int)(w:World):
 Calls prog 137 #[dC ⟨o,a,b,c,i⟩,.bool (hI o),.int .i64 n,.int .i64 k] w fun e w'=>e=.returned (.int .i64 (kn o i n k))/\Below w.heap.size w w':=by
 have B0:=aak w.heap.size w;have B1:∀ob,Below w.heap.size w (w.alloc ob):=fun ob=>B0.alloc (aag _) ob
 unfold dC;by_cases hi:hI o=true
 ·rw [hi];have e0:kn o i n k=(if o=22\/o=23 then(if 0<=i/\i<=n then 0 else 12)else if o=29\/o=30 then(if 0<=i/\i<k then 0 else 13)else 0):=by simp [kn,hi]
  rw [e0];clear hi e0;by_cases h1:o=22\/o=23
  ·rw [aah h1];by_cases h2:i<0
   ·rw [aaf (by omega)];rcases h1 with rfl|rfl
    ·go_enter func137,ntmps137
     go_wp2
     go_ret;exact ⟨rfl,B1 _⟩
    ·go_enter func137,ntmps137
     go_wp2
     go_ret;exact ⟨rfl,B1 _⟩
   ·have d2:decide (i<0)=false:=by simpa using h2
    by_cases h3:n<i
    ·rw [aaf (by omega)];rcases h1 with rfl|rfl
     ·go_enter func137,ntmps137
      go_wp2
      go_ret;exact ⟨rfl,B1 _⟩
     ·go_enter func137,ntmps137
      go_wp2
      go_ret;exact ⟨rfl,B1 _⟩
    ·have d3:decide (n<i)=false:=by simpa using h3
     rw [aah (by omega)];rcases h1 with rfl|rfl
     ·go_enter func137,ntmps137
      go_wp2
      go_ret;exact ⟨rfl,B1 _⟩
     ·go_enter func137,ntmps137
      go_wp2
      go_ret;exact ⟨rfl,B1 _⟩
  ·rw [aaf h1];have t1:(o==22)=false:=by simp;omega
   have t2:(o==23)=false:=by simp;omega
   clear h1;by_cases h1:o=29\/o=30
   ·rw [aah h1];clear t1 t2;by_cases h2:i<0
    ·rw [aaf (by omega)];rcases h1 with rfl|rfl
     ·go_enter func137,ntmps137
      go_wp2
      go_ret;exact ⟨rfl,B1 _⟩
     ·go_enter func137,ntmps137
      go_wp2
      go_ret;exact ⟨rfl,B1 _⟩
    ·have d2:decide (i<0)=false:=by simpa using h2
     by_cases h3:k<=i
     ·rw [aaf (by omega)];rcases h1 with rfl|rfl
      ·go_enter func137,ntmps137
       go_wp2
       go_ret;exact ⟨rfl,B1 _⟩
      ·go_enter func137,ntmps137
       go_wp2
       go_ret;exact ⟨rfl,B1 _⟩
     ·have d3:decide (k<=i)=false:=by simpa using h3
      rw [aah (by omega)];rcases h1 with rfl|rfl
      ·go_enter func137,ntmps137
       go_wp2
       go_ret;exact ⟨rfl,B1 _⟩
      ·go_enter func137,ntmps137
       go_wp2
       go_ret;exact ⟨rfl,B1 _⟩
   ·rw [aaf h1];have t3:(o==29)=false:=by simp;omega
    have t4:(o==30)=false:=by simp;omega
    clear h1;go_enter func137,ntmps137
    go_wp2
    go_ret;exact ⟨rfl,B1 _⟩
 ·have hu:=SM i;have hf:hI o=false:=by simpa using hi
  have e0:kn o i n k=if i=0 then 0 else 11:=by simp [kn,hf]
  rw [hf,e0];obtain ⟨E,hE⟩:∃E:Int,(if i=0 then 0 else 11)=E:=⟨_,rfl⟩;rw [hE]at hu⊢;clear hE e0 hi hf;go_enter func137,ntmps137;go_wp2_with (go_at_call 170;refine (hu _).mono ?_;rintro e w1 ⟨rfl,rfl⟩);go_ret;exact ⟨rfl,B1 _⟩
theorem M9(h:¬(0<=x.op/\x.op<34)):wrong x n k=(9,0):=by unfold wrong;rw [aah h]
theorem Nz(h:0<=x.op/\x.op<34)(ha:cV x.a (hA x.op)≠0):wrong x n k=(cV x.a (hA x.op),1):=by
 unfold wrong;rw [aaf (by simpa using h),aah ha]
theorem NA(h:0<=x.op/\x.op<34)(ha:cV x.a (hA x.op)=0)(hb:cV x.b (hB x.op)≠0):wrong x n k=(cV x.b (hB x.op),2):=by
 unfold wrong;rw [aaf (by simpa using h),aaf (by simpa using ha),aah hb]
theorem NB(h:0<=x.op/\x.op<34)(ha:cV x.a (hA x.op)=0)(hb:cV x.b (hB x.op)=0)(hc:cV x.c (hC x.op)≠0):wrong x n k=(cV x.c (hC x.op),3):=by
 unfold wrong;rw [aaf (by simpa using h),aaf (by simpa using ha),aaf (by simpa using hb),aah hc]
theorem NC(h:0<=x.op/\x.op<34)(ha:cV x.a (hA x.op)=0)(hb:cV x.b (hB x.op)=0)(hc:cV x.c (hC x.op)=0)(hi:kn x.op x.dn n k≠0):wrong x n k=(kn x.op x.dn n k,4):=by
 unfold wrong;rw [aaf (by simpa using h),aaf (by simpa using ha),aaf (by simpa using hb),aaf (by simpa using hc),aah hi]
theorem T4(h:0<=x.op/\x.op<34)(ha:cV x.a (hA x.op)=0)(hb:cV x.b (hB x.op)=0)(hc:cV x.c (hC x.op)=0)(hi:kn x.op x.dn n k=0):wrong x n k=(0,0):=by
 unfold wrong;rw [aaf (by simpa using h),aaf (by simpa using ha),aaf (by simpa using hb),aaf (by simpa using hc),aaf (by simpa using hi)]
theorem fault_0(o a b c i n k:Int)(w:World)(hF:bR w)(h:0<=o/\o<34)(ea:cV a (hA o)≠0):
 Calls prog 110 #[dC ⟨o,a,b,c,i⟩,.int .i64 n,.int .i64 k] w fun e w'=>e=.returned (.tuple #[.int .i64 (wrong ⟨o,a,b,c,i⟩ n k).1,.int .i64 (wrong ⟨o,a,b,c,i⟩ n k).2])/\Below w.heap.size w w':=by
 rw [Nz (x:=⟨o,a,b,c,i⟩) h ea];have B0:=aak w.heap.size w;have B1:∀ob,Below w.heap.size w (w.alloc ob):=fun ob=>B0.alloc (aag _) ob
 have hk:=BI o;rw [show(decide (0<=o)&&decide (o<34))=true by simp;omega]at hk;have hf:∀W,Below w.heap.size w W->_:=fun W hb=>Fy o W (hF.kept hb)
 have hi:=Fz o a b c i n k;unfold dC at hi;have ha:=pI a (hA o);have hb:=pI b (hB o);have hc:=pI c (hC o);simp only
 generalize cV a (hA o)=E at ea ha⊢;have dq:(E==0)=false:=by simpa using ea
 unfold dC;clear hF h ea;generalize hA o=A at hf ha;generalize hB o=B at hf hb;generalize hC o=C at hf hc;generalize hI o=I at hf hi;go_enter func110,ntmps110;go_wp2_with fail;refine (hk _).mono ?_;rintro e w1 ⟨rfl,rfl⟩;go_wp2_with fail;refine (hf _ (B1 _)).mono ?_;rintro e w1 ⟨rfl,rfl⟩;go_wp2_with fail;refine (ha _).mono ?_;rintro e w1 ⟨rfl,rfl⟩;have b1:=B1;go_wp2_with fail;go_ret2;exact ⟨rfl,b1 _⟩
theorem fault_1(o a b c i n k:Int)(w:World)(hF:bR w)(h:0<=o/\o<34)(ea:cV a (hA o)=0)(eb:cV b (hB o)≠0):
 Calls prog 110 #[dC ⟨o,a,b,c,i⟩,.int .i64 n,.int .i64 k] w fun e w'=>e=.returned (.tuple #[.int .i64 (wrong ⟨o,a,b,c,i⟩ n k).1,.int .i64 (wrong ⟨o,a,b,c,i⟩ n k).2])/\Below w.heap.size w w':=by
 rw [NA (x:=⟨o,a,b,c,i⟩) h ea eb];have B0:=aak w.heap.size w;have B1:∀ob,Below w.heap.size w (w.alloc ob):=fun ob=>B0.alloc (aag _) ob
 have hk:=BI o;rw [show(decide (0<=o)&&decide (o<34))=true by simp;omega]at hk;have hf:∀W,Below w.heap.size w W->_:=fun W hb=>Fy o W (hF.kept hb)
 have hi:=Fz o a b c i n k;unfold dC at hi;have ha:=pI a (hA o);have hb:=pI b (hB o);have hc:=pI c (hC o);rw [ea]at ha;simp only
 generalize cV b (hB o)=E at eb hb⊢;have dq:(E==0)=false:=by simpa using eb
 unfold dC;clear hF h ea eb;generalize hA o=A at hf ha;generalize hB o=B at hf hb;generalize hC o=C at hf hc;generalize hI o=I at hf hi;go_enter func110,ntmps110;go_wp2_with fail;refine (hk _).mono ?_;rintro e w1 ⟨rfl,rfl⟩;go_wp2_with fail;refine (hf _ (B1 _)).mono ?_;rintro e w1 ⟨rfl,rfl⟩;go_wp2_with fail;refine (ha _).mono ?_;rintro e w1 ⟨rfl,rfl⟩;go_wp2_with fail;refine (hb _).mono ?_;rintro e w1 ⟨rfl,rfl⟩;have b1:=B1;go_wp2_with fail;go_ret2;exact ⟨rfl,b1 _⟩
theorem fault_2(o a b c i n k:Int)(w:World)(hF:bR w)(h:0<=o/\o<34)(ea:cV a (hA o)=0)(eb:cV b (hB o)=0)(ec:cV c (hC o)≠0):
 Calls prog 110 #[dC ⟨o,a,b,c,i⟩,.int .i64 n,.int .i64 k] w fun e w'=>e=.returned (.tuple #[.int .i64 (wrong ⟨o,a,b,c,i⟩ n k).1,.int .i64 (wrong ⟨o,a,b,c,i⟩ n k).2])/\Below w.heap.size w w':=by
 rw [NB (x:=⟨o,a,b,c,i⟩) h ea eb ec];have B0:=aak w.heap.size w;have B1:∀ob,Below w.heap.size w (w.alloc ob):=fun ob=>B0.alloc (aag _) ob
 have hk:=BI o;rw [show(decide (0<=o)&&decide (o<34))=true by simp;omega]at hk;have hf:∀W,Below w.heap.size w W->_:=fun W hb=>Fy o W (hF.kept hb)
 have hi:=Fz o a b c i n k;unfold dC at hi;have ha:=pI a (hA o);have hb:=pI b (hB o);have hc:=pI c (hC o);rw [ea]at ha;rw [eb]at hb;simp only
 generalize cV c (hC o)=E at ec hc⊢;have dq:(E==0)=false:=by simpa using ec
 unfold dC;clear hF h ea eb ec;generalize hA o=A at hf ha;generalize hB o=B at hf hb;generalize hC o=C at hf hc;generalize hI o=I at hf hi;go_enter func110,ntmps110;go_wp2_with fail;refine (hk _).mono ?_;rintro e w1 ⟨rfl,rfl⟩;go_wp2_with fail;refine (hf _ (B1 _)).mono ?_;rintro e w1 ⟨rfl,rfl⟩;go_wp2_with fail;refine (ha _).mono ?_;rintro e w1 ⟨rfl,rfl⟩;go_wp2_with fail;refine (hb _).mono ?_;rintro e w1 ⟨rfl,rfl⟩;go_wp2_with fail;refine (hc _).mono ?_;rintro e w1 ⟨rfl,rfl⟩;have b1:=B1;go_wp2_with fail;go_ret2;exact ⟨rfl,b1 _⟩
theorem fault_3(o a b c i n k:Int)(w:World)(hF:bR w)(h:0<=o/\o<34)(ea:cV a (hA o)=0)(eb:cV b (hB o)=0)(ec:cV c (hC o)=0)(ei:kn o i n k≠0):
 Calls prog 110 #[dC ⟨o,a,b,c,i⟩,.int .i64 n,.int .i64 k] w fun e w'=>e=.returned (.tuple #[.int .i64 (wrong ⟨o,a,b,c,i⟩ n k).1,.int .i64 (wrong ⟨o,a,b,c,i⟩ n k).2])/\Below w.heap.size w w':=by
 rw [NC (x:=⟨o,a,b,c,i⟩) h ea eb ec ei];have B0:=aak w.heap.size w;have B1:∀ob,Below w.heap.size w (w.alloc ob):=fun ob=>B0.alloc (aag _) ob
 have hk:=BI o;rw [show(decide (0<=o)&&decide (o<34))=true by simp;omega]at hk;have hf:∀W,Below w.heap.size w W->_:=fun W hb=>Fy o W (hF.kept hb)
 have hi:=Fz o a b c i n k;unfold dC at hi;have ha:=pI a (hA o);have hb:=pI b (hB o);have hc:=pI c (hC o);rw [ea]at ha;rw [eb]at hb;rw [ec]at hc;simp only
 generalize kn o i n k=E at ei hi⊢;have dq:(E==0)=false:=by simpa using ei
 unfold dC;clear hF h ea eb ec ei;generalize hA o=A at hf ha;generalize hB o=B at hf hb;generalize hC o=C at hf hc;generalize hI o=I at hf hi;go_enter func110,ntmps110;go_wp2_with fail;refine (hk _).mono ?_;rintro e w1 ⟨rfl,rfl⟩;go_wp2_with fail;refine (hf _ (B1 _)).mono ?_;rintro e w1 ⟨rfl,rfl⟩;go_wp2_with fail;refine (ha _).mono ?_;rintro e w1 ⟨rfl,rfl⟩;go_wp2_with fail;refine (hb _).mono ?_;rintro e w1 ⟨rfl,rfl⟩;go_wp2_with fail;refine (hc _).mono ?_;rintro e w1 ⟨rfl,rfl⟩;go_wp2_with fail;refine (hi _).mono ?_;rintro e w1 ⟨rfl,b1⟩;replace b1:=(B1 _).trans (b1.mono (B1 _).size);go_wp2_with fail;go_ret2;exact ⟨rfl,b1⟩
theorem fault_4(o a b c i n k:Int)(w:World)(hF:bR w)(h:0<=o/\o<34)(ea:cV a (hA o)=0)(eb:cV b (hB o)=0)(ec:cV c (hC o)=0)(ei:kn o i n k=0):
 Calls prog 110 #[dC ⟨o,a,b,c,i⟩,.int .i64 n,.int .i64 k] w fun e w'=>e=.returned (.tuple #[.int .i64 (wrong ⟨o,a,b,c,i⟩ n k).1,.int .i64 (wrong ⟨o,a,b,c,i⟩ n k).2])/\Below w.heap.size w w':=by
 rw [T4 (x:=⟨o,a,b,c,i⟩) h ea eb ec ei];have B0:=aak w.heap.size w;have B1:∀ob,Below w.heap.size w (w.alloc ob):=fun ob=>B0.alloc (aag _) ob
 have hk:=BI o;rw [show(decide (0<=o)&&decide (o<34))=true by simp;omega]at hk;have hf:∀W,Below w.heap.size w W->_:=fun W hb=>Fy o W (hF.kept hb)
 have hi:=Fz o a b c i n k;unfold dC at hi;have ha:=pI a (hA o);have hb:=pI b (hB o);have hc:=pI c (hC o);rw [ea]at ha;rw [eb]at hb;rw [ec]at hc;rw [ei]at hi;unfold dC;clear hF h ea eb ec ei;generalize hA o=A at hf ha;generalize hB o=B at hf hb;generalize hC o=C at hf hc;generalize hI o=I at hf hi;go_enter func110,ntmps110;go_wp2_with fail;refine (hk _).mono ?_;rintro e w1 ⟨rfl,rfl⟩;go_wp2_with fail;refine (hf _ (B1 _)).mono ?_;rintro e w1 ⟨rfl,rfl⟩;go_wp2_with fail;refine (ha _).mono ?_;rintro e w1 ⟨rfl,rfl⟩;go_wp2_with fail;refine (hb _).mono ?_;rintro e w1 ⟨rfl,rfl⟩;go_wp2_with fail;refine (hc _).mono ?_;rintro e w1 ⟨rfl,rfl⟩;go_wp2_with fail;refine (hi _).mono ?_;rintro e w1 ⟨rfl,b1⟩;replace b1:=(B1 _).trans (b1.mono (B1 _).size);go_wp2_with fail;go_ret2;exact ⟨rfl,b1⟩
theorem fault_no(o a b c i n k:Int)(w:World)(h:¬(0<=o/\o<34)):
 Calls prog 110 #[dC ⟨o,a,b,c,i⟩,.int .i64 n,.int .i64 k] w fun e w'=>e=.returned (.tuple #[.int .i64 (wrong ⟨o,a,b,c,i⟩ n k).1,.int .i64 (wrong ⟨o,a,b,c,i⟩ n k).2])/\Below w.heap.size w w':=by
 rw [M9 (x:=⟨o,a,b,c,i⟩) h];have hk:=BI o;rw [show(decide (0<=o)&&decide (o<34))=false by simpa using h]at hk;unfold dC;clear h;go_enter func110,ntmps110;go_wp2_with fail;refine (hk _).mono ?_;rintro e w1 ⟨rfl,rfl⟩;go_wp2_with fail;go_ret2;exact ⟨rfl,(aak w.heap.size w).alloc (aag _) _⟩
theorem Tp(x:Ins)(n k:Int)(w:World)(hF:bR w):
 Calls prog 110 #[dC x,.int .i64 n,.int .i64 k] w fun e w'=>e=.returned (.tuple #[.int .i64 (wrong x n k).1,.int .i64 (wrong x n k).2])/\Below w.heap.size w w':=by
 obtain ⟨o,a,b,c,i⟩:=x;by_cases h:0<=o/\o<34
 ·by_cases ea:cV a (hA o)=0
  ·by_cases eb:cV b (hB o)=0
   ·by_cases ec:cV c (hC o)=0
    ·by_cases ei:kn o i n k=0
     ·exact fault_4 o a b c i n k w hF h ea eb ec ei
     ·exact fault_3 o a b c i n k w hF h ea eb ec ei
    ·exact fault_2 o a b c i n k w hF h ea eb ec
   ·exact fault_1 o a b c i n k w hF h ea eb
  ·exact fault_0 o a b c i n k w hF h ea
 ·exact fault_no o a b c i n k w h
theorem MJ(x:Ins)(n k:Int)(w:World)(hF:bR w):
 Calls prog 78 #[dC x,.int .i64 n,.int .i64 k] w fun e w'=>e=.returned (.int .i64 (wrong x n k).1)/\Below w.heap.size w w':=by
 have hf:∀W,Below w.heap.size w W->_:=fun W hb=>Tp x n k W (hF.kept hb)
 generalize wrong x n k=R at hf⊢;clear hF;unfold dC at*
 have B0:=aak w.heap.size w;have B1:∀ob,Below w.heap.size w (w.alloc ob):=fun ob=>B0.alloc (aag _) ob
 go_enter func78,ntmps78;go_wp2_with fail;first
  |(refine (hf _ (B1 _)).mono ?_
    rintro e w1 ⟨rfl,b1⟩
    replace b1:=(B1 _).trans (b1.mono (B1 _).size))
  |(refine (hf _ B0).mono ?_
    rintro e w1 ⟨rfl,b1⟩)
 go_wp2_with fail;go_ret;exact ⟨rfl,b1⟩
end Go.Proofs.YthopnfbjiifhhaaGreatDoor
