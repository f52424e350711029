/- What is wrong with an instruction, by the document's answer. -/
import Derived.Test.YthopnfbjiifhhaaGreatDoorGCa
import Derived.Deep.AppendLies
import Derived.Deep.CutRange
set_option maxHeartbeats 4000000
set_option maxRecDepth 100000
namespace Go.Proofs.YthopnfbjiifhhaaGreatDoor
open Go.RowKit Go.Proofs.Tryz
theorem pow_step(j:Nat):2^(8*(j+1))=2^(8*j)*256:=by rw [Nat.mul_add,Nat.pow_add]
theorem BS(bs:List Nat)(p:Nat)(hb:∀i,bs.getD i 0<256):∀m,gD bs p m<2^(8*m)
 |0=>by simp [gD]
 |m+1=>by
  have ih:=BS bs p hb m;have h1:bs.getD (p+m) 0*2^(8*m)<=255*2^(8*m):=aaI _ (by have:=hb (p+m);omega);rw [gD,pow_step];omega
def Fit(x:Ins):Prop:=-9223372036854775808<=x.dn/\x.dn<=9223372036854775807
theorem SN(bs:List Nat)(n:Nat):∀(m s:Nat),0<=(nC bs n s m).2/\((nC bs n s m).1≠0->(nC bs n s m).2<=12*(s+m:Nat))/\((nC bs n s m).1=0->(nC bs n s m).2=0)
 |0,s=>by simp [nC]
 |m+1,s=>by
  have hx:=Sv (fc bs (12*s)) n 8;have ih:=SN bs n m (s+1);unfold nC;split
  ·next h=>exact ⟨by simp only;omega,fun _=>by simp only;omega,fun h'=>absurd h' h⟩
  ·refine ⟨ih.1,fun h=> ?_,ih.2.2⟩;have:=ih.2.1 h;omega
theorem SP(bs:List Nat):0<=(je bs).2/\(je bs).2<=bs.length/\((je bs).1=0->(je bs).2=0):=by
 unfold je;split
 ·exact ⟨by simp,by simp only;omega,fun h=>by simp at h⟩
 ·split
  ·exact ⟨by simp,by simp,fun h=>by simp at h⟩
  ·have h:=SN bs (bs.length/12) (bs.length/12) 0;refine ⟨h.1, ?_,h.2.2⟩;by_cases h0:(nC bs (bs.length/12) 0 (bs.length/12)).1=0
   ·rw [h.2.2 h0];omega
   ·have:=h.2.1 h0;omega
theorem Sq(n k:Int):∀(l:List Ins) (s:Int),((m_ n k l s).1=0/\(m_ n k l s).2=0)\/(s<=(m_ n k l s).2/\(m_ n k l s).2<s+l.length)
 |[],s=> .inl ⟨rfl,rfl⟩
 |x::r,s=>by
  unfold m_;split
  ·right;simp only [List.length_cons];omega
  ·rcases Sq n k r (s+1)with h|h
   ·exact .inl h
   ·right;simp only [List.length_cons];omega
theorem mayL_place(l:List Ins)(k:Int):0<=(gB l k).2/\(gB l k).2<=l.length/\((gB l k).1=0->(gB l k).2=0):=by
 unfold gB;split
 ·exact ⟨by simp,by simp,fun h=>by simp at h⟩
 ·split
  ·exact ⟨by simp,by simp only;omega,fun h=>by simp at h⟩
  ·rcases Sq l.length k l 0 with h|h
   ·rw [h.2];exact ⟨by omega,by omega,fun _=>rfl⟩
   ·refine ⟨by omega,by omega,fun h0=> ?_⟩;have hz:=Jd l.length k l 0 (Mz _ _ l 0 h0);rw [hz]
variable{x:Ins}{n B b s i y j S:Nat}{k:Int}{a:Option Addr}{w w':World}{l:List Ins}{v:Value}{bs:List Nat}{e:TypeId}{xs:List Value}
theorem wrong_more{n n' k':Int}(h:(wrong x n k).1=0)(hn:n<=n')(hk:k<=k'):(wrong x n' k').1=0:=by
 obtain ⟨h1,h2,h3,h4,h5,h6⟩:=T3 h;have h7:kn x.op x.dn n' k'=0:=by
  unfold kn at*
  split
  ·next hi=>
   rw [aah hi]at h6;split
   ·next ho=>
    rw [aah ho]at h6;split at h6
    ·rw [aah (by omega)]
    ·simp at h6
   ·next ho=>
    rw [aaf ho]at h6;split
    ·next hq=>
     rw [aah hq]at h6;split at h6
     ·rw [aah (by omega)]
     ·simp at h6
    ·rfl
  ·next hi=>
   rw [aaf hi]at h6;exact h6
 unfold wrong;rw [aaf (by omega),aaf (by rw [h3];simp),aaf (by rw [h4];simp),aaf (by rw [h5];simp),aaf (by rw [h7];simp)]
theorem below_drewN{a:World}(h:Below B a w)(n:Nat):Below B a (w.drewN n):=⟨h.os,h.tape,h.output,h.size,h.block⟩
structure J5(w:World)(b o:Nat)(x:Ins):Prop where
 c0:w.cell? ⟨b,o,none⟩=some (.int .i64 x.op)
 c1:w.cell? ⟨b,o+1,none⟩=some (.int .i64 x.a)
 c2:w.cell? ⟨b,o+2,none⟩=some (.int .i64 x.b)
 c3:w.cell? ⟨b,o+3,none⟩=some (.int .i64 x.c)
 c4:w.cell? ⟨b,o+4,none⟩=some (.int .i64 x.dn)
theorem J5.kept{o:Nat}(h:J5 w b o x)(hb:Below w.heap.size w w'):J5 w' b o x where
 c0:=(hb.cell (aaj w _ h.c0)).trans h.c0
 c1:=(hb.cell (aaj w _ h.c1)).trans h.c1
 c2:=(hb.cell (aaj w _ h.c2)).trans h.c2
 c3:=(hb.cell (aaj w _ h.c3)).trans h.c3
 c4:=(hb.cell (aaj w _ h.c4)).trans h.c4
def oL(w:World)(a:Option Addr)(l:List Ins):Prop:=∀i,i<l.length->∃b off,a=some ⟨b,off,none⟩/\J5 w b (off+i*5) (l.getD i default)
theorem oL.kept(h:oL w a l)(hb:Below w.heap.size w w'):oL w' a l:=fun i hi=>by
 obtain ⟨b,off,e,hc⟩:=h i hi;exact ⟨b,off,e,hc.kept hb⟩
theorem FX(a:Option Addr)(cap:Nat)(l:List Ins)(k:Int)(w:World)(hP:oL w a l)(hF:bR w):
 Calls prog 58 #[.slice a l.length cap,.int .i64 k] w fun e w'=>e=.returned (.tuple #[.int .i64 (gB l k).1,.int .i64 (gB l k).2])/\Below w.heap.size w w':=by
 by_cases h1:k<0
 ·have e:gB l k=(1,0):=by unfold gB;rw [aah (by omega)]
  rw [e];clear e hP hF;go_enter func58,ntmps58
  go_wp2
  go_ret2;exact ⟨rfl,aak _ _⟩
 ·have d1:decide (k<0)=false:=by simpa using h1
  by_cases h2:8<k
  ·have e:gB l k=(1,0):=by unfold gB;rw [aah (by omega)]
   rw [e];clear e hP hF h1;go_enter func58,ntmps58
   go_wp2
   go_ret2;exact ⟨rfl,aak _ _⟩
  ·have d2:decide (8<k)=false:=by simpa using h2
   by_cases h3:256<l.length
   ·have e:gB l k=(3,256):=by unfold gB;rw [aaf (by omega),aah h3]
    rw [e];have d3:(256:Int)<(l.length:Int):=by omega
    clear e hP hF h1 h2;go_enter func58,ntmps58
    go_wp2
    go_ret2;exact ⟨rfl,aak _ _⟩
   ·have e:gB l k=m_ l.length k l 0:=by unfold gB;rw [aaf (by omega),aaf h3]
    rw [e];have hlen:l.length<=256:=by omega
    have d3:decide ((256:Int)<(l.length:Int))=false:=by simp;omega
    obtain ⟨R,hR⟩:=Haa (m_ l.length k l 0);rw [hR.out];have HP:Hid (oL w a l):=hP;have HF:Hid (bR w):=hF;clear e hP hF h1 h2 h3;go_enter func58,ntmps58
    go_wp2
    go_loopw [6,7,8,20] (fun _ _ _ v20 wr=>∃i:Nat,v20=.int .i64 i/\i<=l.length/\Hid (∀j,j<i->(wrong (l.getD j default) l.length k).1=0)/\Below w.heap.size w wr) (fun _ _ _ v20 _=>l.length-(intOf v20).toNat)
    case atStart=>exact ⟨0,rfl,aaq _,hd (fun j hj=>absurd hj (aao j)),aak _ _⟩
    case round=>
     obtain ⟨i,rfl,hi,aY,jh⟩:=hrel;by_cases af:i<l.length
     ·have fI:(i:Int)<(l.length:Int):=by omega
      obtain ⟨b,off,rfl,hx⟩:=HP.out i af;have hx:=hx.kept jh;have wL:∀W,Below w.heap.size w W->_:=fun W hb=>MJ (l.getD i default) l.length k W (HF.out.kept hb)
      obtain ⟨k0,k1,k2,k3,k4⟩:=hx;by_cases hw:(wrong (l.getD i default) l.length k).1=0
      ·have Ox:Hid (∀j,j<i+1->(wrong (l.getD j default) l.length k).1=0):=hd (fun j hj=>by
        by_cases e:j=i
        ·rw [e];exact hw
        ·exact aY.out j (by omega))
       rw [hw]at wL;clear hw aY HP;generalize l.getD i default=x at*
       unfold dC at wL;go_wp2_with fail;refine (wL _ ?_).mono ?_
       ·exact jh.alloc jh.size _
       rintro e w1 ⟨rfl,b1⟩;have fe:=jh.alloc jh.size (.cells #[.int .i64 x.op,.int .i64 x.a,.int .i64 x.b,.int .i64 x.c,.int .i64 x.dn] 35);replace b1:=fe.trans (b1.mono fe.size);go_wp2_with fail
       go_roundw
       case rel=>exact ⟨i+1,by go_num,by omega,Ox,b1⟩
       case measure=>simp [intOf];omega
      ·have Cv:Hid (R=((wrong (l.getD i default) l.length k).1,(i:Int))):=hd (by
        rw [<-hR.out,Tm _ _ l 0 i af aY.out hw,Int.zero_add])
       generalize (wrong (l.getD i default) l.length k).1=E at*
       have dE:(E==0)=false:=by simpa using hw
       clear hw aY HP hR;generalize l.getD i default=x at*
       unfold dC at wL;go_wp2_with fail;refine (wL _ ?_).mono ?_
       ·exact jh.alloc jh.size _
       rintro e w1 ⟨rfl,b1⟩;have fe:=jh.alloc jh.size (.cells #[.int .i64 x.op,.int .i64 x.a,.int .i64 x.b,.int .i64 x.c,.int .i64 x.dn] 35);replace b1:=fe.trans (b1.mono fe.size);go_wp2_with fail;go_ret2;exact ⟨by rw [Cv.out];rfl,b1⟩
     ·have z_:decide ((i:Int)<(l.length:Int))=false:=by simp;omega
      have dH:(l.length:Int)<=(i:Int):=by omega
      have Cv:Hid (R=(0,0)):=hd (by rw [<-hR.out,Jd _ _ l 0 (fun j hj=>aY.out j (by omega))]);clear aY hR HP
      go_wp2
      go_ret2;exact ⟨by rw [Cv.out];rfl,jh⟩
theorem JF:(prog.info? 5).map (fun i=>(i.zero,i.size,i.bytes))=some (some (.int .u8 0),1,1):=by kernel_rfl
theorem info_parts{t:TypeId}{z:Value}(h:(prog.info? t).map (fun i=>(i.zero,i.size,i.bytes))=some (some z,s,b)):∃i,prog.info? t=some i/\i.zero=some z/\i.size=s/\i.bytes=b:=by
 cases hh:prog.info? t with
 |none=>rw [hh]at h;cases h
 |some i=>rw [hh]at h;simp at h;exact ⟨i,rfl,h.1,h.2.1,h.2.2⟩
def eA(l:List Nat):List Value:=l.map fun b:Nat=>Value.int .u8 (b:Int)
theorem BD(l:List Nat):(eA l).length=l.length:=by simp [eA]
theorem FA(l m:List Nat):eA l++eA m=eA (l++m):=by simp [eA]
theorem kO(b off j:Nat):(⟨b,off,none⟩:Addr).add j=⟨b,off+j,none⟩:=by
 unfold Addr.add;split
 ·rename_i h;subst h;rfl
 ·rfl
theorem Tq(vs:List Value)(t:TypeId)(hb:w.heap.size=b):∀j u,vs[j]?=some u->(w.alloc (.cells vs.toArray t)).cell? ((⟨b,0,none⟩:Addr).add j)=some u:=by
 subst hb;intro j u hj;have h:=aae w (.cells vs.toArray t);rw [kO,aaH,aaa _ _ _ vs.toArray t (0,0) h];simpa using hj
theorem JW(z:Int):z% 256=(b8 z:Int):=by unfold b8;omega
theorem mod_u64(z:Int):z% 18446744073709551616=(u64 z:Int):=by unfold u64;omega
theorem wrap_u64(z:Int):IntKind.u64.wrap z=z% 18446744073709551616:=by
 unfold IntKind.wrap;rw [show IntKind.u64.signed=false from rfl];rfl
theorem byte_val{i:Int}{U:Nat}(e4:i% 18446744073709551616=(U:Int))(h:y=U/2^(8*j)% 256):IntKind.u64.wrap i/2^(8*j)% 256=(y:Int):=by
 rw [wrap_u64,e4,h];clear e4 h;generalize 8*j=q;have h1:((2^q:Nat):Int)=(2:Int)^q:=by simp
 rw [<-h1];rfl
theorem DF{a:Addr}(o:Obj)(h:w.cell? a=some v):(w.alloc o).cell? a=some v:=by
 rw [World.cell?_alloc_lt _ _ _ (aaj w _ h)];exact h
theorem take_snocC(l:List Ins)(i:Nat)(h:i<l.length):l.take (i+1)=l.take i++[l.getD i default]:=by
 rw [List.take_add_one,aac,aad h];rfl
theorem enc_step(l:List Ins)(i:Nat)(h:i<l.length):tN (l.take (i+1))=tN (l.take i)++Ct (l.getD i default):=by rw [take_snocC l i h,encB_snoc]
theorem UC(h:(gB l 8).1=0):l.length<=256:=by
 unfold gB at h;rw [aaf (by omega)]at h;split at h
 ·simp at h
 ·omega
theorem may_zero(h:(gB l k).1=0):gB l k=(0,0):=by
 have h2:=(mayL_place l k).2.2 h;exact Prod.ext h h2
theorem encode_ok(a:Option Addr)(cap:Nat)(l:List Ins)(w:World)(hP:oL w a l)(hF:bR w)(hm:(gB l 8).1=0):
 Calls prog 46 #[.slice a l.length cap] w fun e w'=>∃g cap',e=.returned (.tuple #[.slice (some ⟨g,0,none⟩) (12*l.length) cap',.int .i64 0,.int .i64 0])/\w'.ownsRow w.heap.size 5 1 (.slice (some ⟨g,0,none⟩) (12*l.length) cap') (12*l.length) (eA (tN l))/\Below w.heap.size w w':=by
 obtain ⟨i0,hi,su,CL,yn⟩:=info_parts JF;have hlen:=UC hm;have iG:=FX a cap l 8 w hP hF;rw [may_zero hm]at iG;have HP:Hid (oL w a l):=hP;clear hP hm hF;go_enter func46,ntmps46;go_wp2_with fail;refine iG.mono ?_;rintro e w1 ⟨rfl,b1⟩;have gi:=b1.size;go_wp2_with (at_make;refine wpList_make_own _ rfl _ _ 66 rfl w.heap.size 5 i0 (.int .u8 0) 1 abz hi su CL .i64 .i64 _ (12*l.length) rfl rfl (by omega) (by rw [yn];omega) (by unfold maxLen;omega) gi ?_;intro w2 Ch lJ);have b2:Below w.heap.size w w2:=b1.grown lJ gi (fun k hk=>by cases hk);clear b1 gi lJ iG
 go_loopw [7,9,10,26,45] (fun v7 _ _ v26 _ wr=>∃i g cap:Nat,v26=.int .i64 i/\i<=l.length/\v7=.slice (some ⟨g,0,none⟩) (12*i) cap/\wr.ownsRow w.heap.size 5 1 (.slice (some ⟨g,0,none⟩) (12*i) cap) (12*i) (eA (tN (l.take i)))/\Below w.heap.size w wr) (fun _ _ _ v26 _ _=>l.length-(intOf v26).toNat)
 case atStart=>exact ⟨0,_,_,rfl,aaq _,rfl,Ch,b2⟩
 case round=>
  obtain ⟨q,g,cap,rfl,hq,rfl,d_,jh⟩:=hrel;clear Ch b2;by_cases af:q<l.length
  ·have fI:(q:Int)<(l.length:Int):=by omega
   obtain ⟨bb,off,rfl,hx⟩:=HP.out q af;have hx:=hx.kept jh;have hE:Hid (tN (l.take (q+1))=_):=hd (enc_step l q af);obtain ⟨k0,k1,k2,k3,k4⟩:=hx;generalize tN (l.take q)=bs at*
   generalize l.getD q default=x at*
   have hins:Hid (Ct x=[b8 x.op,b8 x.a,b8 x.b,b8 x.c]++(List.range 8).map (JV x.dn)):=hd rfl;have e0:=JW x.op;have e1:=JW x.a;have e2:=JW x.b;have e3:=JW x.c;have e4:=mod_u64 x.dn;have hY:Hid (∀j,JV x.dn j=u64 x.dn/2^(8*j)% 256):=hd fun j=>rfl
   generalize b8 x.op=p0 at*
   generalize b8 x.a=p1 at*
   generalize b8 x.b=p2 at*
   generalize b8 x.c=p3 at*
   generalize u64 x.dn=U at*
   generalize JV x.dn=Y at*
   generalize Ct x=X at*
   obtain ⟨o,a,b,c,i⟩:=x;simp only at*
   have KI:=d_.lt g rfl;have cD:=jh.size;go_wp2_with (at_builtin;(refine wpList_append_lies _ rfl _ _ 66 rfl w.heap.size 5 i0 (.int .u8 0) 1 1 abz hi su CL yn rfl (by decide) (.slice (some ⟨g,0,none⟩) (12*q) cap) _ _ rfl ((d_.alloc _).alloc _) ⟨_,0,none⟩ 4 4 (eA [p0,p1,p2,p3]) rfl rfl (Tq [.int .u8 (p0:Int),.int .u8 (p1:Int),.int .u8 (p2:Int),.int .u8 (p3:Int)] _ (by simp)) (by simp [eA,Value.oneCell']) (by decide) (by unfold maxLen;omega) (by omega) (by simp;omega) _ rfl ?_);intro g1 OY w1 lD tG Gc D5);have aH:Below w.heap.size w w1:=((jh.alloc (by omega) _).alloc (by simp;omega) _).grown tG (by simp;omega) (fun j hj=>(d_.lt j hj).1)
   have XG:w1.cell? ⟨wr.heap.size,4,none⟩=some (.int .i64 i):=tG.cell (by simp) (fun e=>by
    have e':wr.heap.size=g:=by simpa [Value.ownBlock]using e
    omega)
   have bC:Hid (g1≠wr.heap.size):=hd (by
    rcases Gc with h|h
    ·have h':g=g1:=by simpa [Value.ownBlock]using h
     omega
    ·simp at h;omega)
   rw [FA]at lD;clear tG d_ Gc KI D5 e0 e1 e2 e3 k0 k1 k2 k3 k4;go_wp2_with fail
   go_loopw [7,10,45] (fun v7 _ v45 wq=>∃j g cap:Nat,v45=.int .i64 j/\j<=8/\v7=.slice (some ⟨g,0,none⟩) (12*q+4+j) cap/\wq.ownsRow w.heap.size 5 1 (.slice (some ⟨g,0,none⟩) (12*q+4+j) cap) (12*q+4+j) (eA (bs++[p0,p1,p2,p3]++(List.range j).map Y))/\Below w.heap.size w wq/\wq.cell? ⟨wr.heap.size,4,none⟩=some (.int .i64 i)/\Hid (g≠wr.heap.size)) (fun _ _ v45 _=>8-(intOf v45).toNat)
   case atStart=>exact ⟨0,g1,OY,rfl,by omega,rfl,by simpa using lD,aH,XG,bC⟩
   case round=>
    rename World=>wq
    obtain ⟨j,g,cap,rfl,hj,rfl,d_,aj,hx,hg⟩:=hrel;clear lD aH XG bC;by_cases af:j<8
    ·have ev:=byte_val e4 (hY.out j);have hR:Hid ((List.range (j+1)).map Y=(List.range j).map Y++[Y j]):=hd (by rw [abC];simp);generalize Y j=y at*
     have cD:=aj.size;have KI:=d_.lt g rfl;have GU:=aaj wq _ hx;go_wp2_with (at_builtin;(refine wpList_append_lies _ rfl _ _ 66 rfl w.heap.size 5 i0 (.int .u8 0) 1 1 abz hi su CL yn rfl (by decide) (.slice (some ⟨g,0,none⟩) (12*q+4+j) cap) _ _ rfl (d_.alloc _) ⟨_,0,none⟩ 1 1 (eA [y]) rfl rfl (Tq [.int .u8 (y:Int)] _ (by simp)) (by simp [eA,Value.oneCell']) (by decide) (by unfold maxLen;omega) (by omega) (by simp;omega) _ rfl ?_);intro g1 OY w1 lD tG Gc D5);have Gw:Below w.heap.size w w1:=(aj.alloc (by omega) _).grown tG (by simp;omega) (fun j hj=>(d_.lt j hj).1)
     have As:w1.cell? ⟨wr.heap.size,4,none⟩=some (.int .i64 i):=tG.cell (DF _ hx) (fun e=>by
      have e':wr.heap.size=g:=by simpa [Value.ownBlock]using e
      exact hg.out e'.symm)
     have bC:Hid (g1≠wr.heap.size):=hd (by
      rcases Gc with h|h
      ·have h':g=g1:=by simpa [Value.ownBlock]using h
       rw [<-h'];exact hg.out
      ·simp at h GU;omega)
     rw [FA,aaQ (bs++[p0,p1,p2,p3]),<-hR.out]at lD;clear tG Gc D5 d_ hx hg
     go_roundw
     case rel=>exact ⟨j+1,g1,OY,by go_num,by omega,by rw [abw],lD,Gw,As,bC⟩
     case measure=>simp [intOf];omega
    ·have ej:j=8:=by omega
     subst ej;rw [aaQ,<-hins.out,<-hE.out]at d_;go_wp2_with fail
     go_roundw
     case rel=>exact ⟨q+1,g,cap,by go_num,by omega,by rw [Nat.mul_add],by rw [Nat.mul_add];exact d_,aj⟩
     case measure=>simp [intOf];omega
  ·have ei:q=l.length:=by omega
   have z_:decide ((q:Int)<(l.length:Int))=false:=by simp;omega
   rw [show l.take q=l by rw [ei];exact abg]at d_
   go_wp2
   go_ret3
   refine ⟨g,cap, ?_, ?_,jh⟩
   ·rw [<-ei];rfl
   ·rw [<-ei];exact d_
theorem or_val{T:Nat}(hS:S<2^(8*j))(hy:y<256)(hj:j<8)(hT:T=S+y*2^(8*j)):
 bits .or .u64 (S:Int) (IntKind.u64.wrap ((y:Int)*2^(8*j)))=(T:Int):=by
 have hp:2^(8*j)*256<=18446744073709551616:=by
  have h1:2^(8*j)*256=2^(8*j+8):=by rw [Nat.pow_add]
  have h2:2^(8*j+8)<=2^64:=Nat.pow_le_pow_right (by decide) (by omega);have h3:(2:Nat)^64=18446744073709551616:=by decide
  omega
 have hyp:y*2^(8*j)<18446744073709551616:=by
  have h1:y*2^(8*j)<=255*2^(8*j):=aaI _ (by omega);have h2:0<2^(8*j):=Nat.two_pow_pos _;omega
 have GV:S|||y*2^(8*j)=T:=by
  rw [abF,Nat.or_comm,<-Nat.two_pow_add_eq_or_of_lt hS,hT,abF];omega
 have h2:0<2^(8*j):=Nat.two_pow_pos _;generalize 8*j=q at*
 have h1:((2^q:Nat):Int)=(2:Int)^q:=by simp
 rw [<-h1];generalize 2^q=P at*
 have e1:(y:Int)*(P:Int)=((y*P:Nat):Int):=by simp
 have e2:IntKind.u64.wrap ((y*P:Nat):Int)=((y*P:Nat):Int):=by
  rw [wrap_u64];generalize y*P=M at*
  omega
 rw [e1,e2,u64_or_nat S (y*P) (by omega) hyp,GV]
theorem UD(h:S<2^(8*j))(hj:j<=8):S<18446744073709551616:=by
 have h2:2^(8*j)<=2^64:=Nat.pow_le_pow_right (by decide) (by omega);have h3:(2:Nat)^64=18446744073709551616:=by decide
 omega
theorem wrap_i64_nat(S:Nat):IntKind.i64.wrap (S:Int)=wrap64 (S:Int):=by
 unfold wrap64;generalize (S:Int)=z;rw [abG]
theorem read_any(b q n cap p:Nat)(bs:List Nat)(w:World)(hb:∀i,bs.getD i 0<256)(hn:12<=n)(hc:∀i,i<12->w.cell? ⟨b,q+i,none⟩=some (.int .u8 ((bs.getD (p+i) 0:Nat):Int))):
 Calls prog 204 #[.slice (some ⟨b,q,none⟩) n cap] w fun e w'=>e=.returned (dC (fc bs p))/\Below w.heap.size w w':=by
 have hI:Hid (fc bs p=⟨(bs.getD p 0:Nat),(bs.getD (p+1) 0:Nat),(bs.getD (p+2) 0:Nat),(bs.getD (p+3) 0:Nat),wrap64 (gD bs (p+4) 8:Nat)⟩):=hd rfl;have k0:=hc 0 (by omega);have k1:=hc 1 (by omega);have k2:=hc 2 (by omega);have k3:=hc 3 (by omega);rw [aa8,aa8]at k0;have HC:Hid (∀i,i<12->w.cell? ⟨b,q+i,none⟩=some (.int .u8 ((bs.getD (p+i) 0:Nat):Int))):=hc;have HB:Hid (∀i,bs.getD i 0<256):=hb;have l0:=hb p;have l1:=hb (p+1);have l2:=hb (p+2);have l3:=hb (p+3);have hS:Hid (∀j,gD bs (p+4) (j+1)=gD bs (p+4) j+bs.getD (p+(4+j)) 0*2^(8*j)):=hd fun j=>by rw [gD,abw]
 have hL:Hid (∀j,gD bs (p+4) j<2^(8*j)):=hd (BS bs (p+4) hb);have h0:Hid (gD bs (p+4) 0=0):=hd rfl;generalize gD bs (p+4)=S at*
 clear hc hb;generalize fc bs p=G at*
 have HA:Below w.heap.size w (w.alloc (.cells #[.int .i64 0,.int .i64 0,.int .i64 0,.int .i64 0,.int .i64 0] 35)):=(aak _ _).alloc (aag _) _;go_enter func204,ntmps204;go_wp2_with fail
 go_loopw [3,4,5] (fun v3 _ v5 wr=>∃j:Nat,v5=.int .i64 j/\j<=8/\v3=.int .u64 (S j:Nat)/\wr=w.alloc (.cells #[.int .i64 0,.int .i64 0,.int .i64 0,.int .i64 0,.int .i64 0] 35)) (fun _ _ v5 _=>8-(intOf v5).toNat)
 case atStart=>exact ⟨0,rfl,by omega,by rw [h0.out];rfl,rfl⟩
 case round=>
  obtain ⟨j,rfl,hj,rfl,rfl⟩:=hrel;by_cases af:j<8
  ·have hx:=DF (.cells #[.int .i64 0,.int .i64 0,.int .i64 0,.int .i64 0,.int .i64 0] 35) (HC.out (4+j) (by omega));have hy:=HB.out (p+(4+j));have GV:=or_val (hL.out j) (HB.out (p+(4+j))) af (hS.out j);generalize bs.getD (p+(4+j)) 0=y at*
   obtain ⟨m,hm⟩:∃m,4+j=m:=⟨_,rfl⟩;rw [hm]at hx;have em:(4:Int)+(j:Int)=(m:Int):=by omega
   have ub:(m:Int)<(n:Int):=by omega
   clear hm;obtain ⟨T,hT⟩:=Haa (S (j+1));rw [hT.out]at GV;go_wp2_with fail
   go_roundw
   case rel=>exact ⟨j+1,by go_num,by omega,by rw [hT.out],trivial⟩
   case measure=>simp [intOf];omega
  ·have ej:j=8:=by omega
   subst ej;have hl:=UD (hL.out 8) (by omega);have ew:=wrap_i64_nat (S 8);generalize S 8=s at*
   generalize wrap64 (s:Int)=z at*
   generalize bs.getD p 0=y0 at*
   generalize bs.getD (p+1) 0=y1 at*
   generalize bs.getD (p+2) 0=y2 at*
   generalize bs.getD (p+3) 0=y3 at*
   have k0:=DF (.cells #[.int .i64 0,.int .i64 0,.int .i64 0,.int .i64 0,.int .i64 0] 35) k0;have k1:=DF (.cells #[.int .i64 0,.int .i64 0,.int .i64 0,.int .i64 0,.int .i64 0] 35) k1;have k2:=DF (.cells #[.int .i64 0,.int .i64 0,.int .i64 0,.int .i64 0,.int .i64 0] 35) k2;have k3:=DF (.cells #[.int .i64 0,.int .i64 0,.int .i64 0,.int .i64 0,.int .i64 0] 35) k3;clear HC HB hS hL h0;go_wp2_with fail;go_region;go_wp2_with fail;rw [hI.out]
   (try simp only [Exit.inBlock,Exit.then])
   refine aar (v:=dC ⟨(y0:Int),(y1:Int),(y2:Int),(y3:Int),z⟩) ?_ rfl ⟨rfl, ?_⟩
   ·have hh:=aae w (.cells #[.int .i64 (y0:Int),.int .i64 (y1:Int),.int .i64 (y2:Int),.int .i64 (y3:Int),.int .i64 z] 35);have c0:((w.alloc (.cells #[.int .i64 (y0:Int),.int .i64 (y1:Int),.int .i64 (y2:Int),.int .i64 (y3:Int),.int .i64 z] 35)).drew).cell? ⟨w.heap.size,0,none⟩=some (.int .i64 (y0:Int)):=by simp
    have c1:((w.alloc (.cells #[.int .i64 (y0:Int),.int .i64 (y1:Int),.int .i64 (y2:Int),.int .i64 (y3:Int),.int .i64 z] 35)).drew).cell? ⟨w.heap.size,1,none⟩=some (.int .i64 (y1:Int)):=by simp
    have c2:((w.alloc (.cells #[.int .i64 (y0:Int),.int .i64 (y1:Int),.int .i64 (y2:Int),.int .i64 (y3:Int),.int .i64 z] 35)).drew).cell? ⟨w.heap.size,2,none⟩=some (.int .i64 (y2:Int)):=by simp
    have c3:((w.alloc (.cells #[.int .i64 (y0:Int),.int .i64 (y1:Int),.int .i64 (y2:Int),.int .i64 (y3:Int),.int .i64 z] 35)).drew).cell? ⟨w.heap.size,3,none⟩=some (.int .i64 (y3:Int)):=by simp
    have c4:((w.alloc (.cells #[.int .i64 (y0:Int),.int .i64 (y1:Int),.int .i64 (y2:Int),.int .i64 (y3:Int),.int .i64 z] 35)).drew).cell? ⟨w.heap.size,4,none⟩=some (.int .i64 z):=by simp
    generalize (w.alloc (.cells #[.int .i64 (y0:Int),.int .i64 (y1:Int),.int .i64 (y2:Int),.int .i64 (y3:Int),.int .i64 z] 35)).drew=W at*
    clear hh;simp [results,results204,go_sem,dC,c0,c1,c2,c3,c4]
   ·exact ((aak _ _).alloc (aag _) _).drew
def mI(w:World)(a:Option Addr)(bs:List Nat):Prop:=∀i,i<bs.length->∃b off,a=some ⟨b,off,none⟩/\w.cell? ⟨b,off+i,none⟩=some (.int .u8 ((bs.getD i 0:Nat):Int))
theorem mI.kept(h:mI w a bs)(hb:Below w.heap.size w w'):mI w' a bs:=fun i hi=>by
 obtain ⟨b,off,e,hc⟩:=h i hi;exact ⟨b,off,e,(hb.cell (aaj w _ hc)).trans hc⟩
theorem mI.at{off:Nat}(h:mI w (some ⟨b,off,none⟩) bs)(i:Nat)(hi:i<bs.length):w.cell? ⟨b,off+i,none⟩=some (.int .u8 ((bs.getD i 0:Nat):Int)):=by
 obtain ⟨b',off',e,hc⟩:=h i hi;simp at e;obtain ⟨rfl,rfl⟩:=e;exact hc
theorem mI.form(h:mI w a bs)(hp:0<bs.length):∃b off,a=some ⟨b,off,none⟩:=by
 obtain ⟨b,off,e,_⟩:=h 0 hp;exact ⟨b,off,e⟩
def rS(x:Ins):List Value:=[.int .i64 x.op,.int .i64 x.a,.int .i64 x.b,.int .i64 x.c,.int .i64 x.dn]
def jK(l:List Ins):List Value:=l.flatMap rS
theorem Jb(x:Ins):(rS x).length=5:=rfl
theorem SQ(l:List Ins):(jK l).length=l.length*5:=by
 induction l with
 |nil=>rfl
 |cons x r ih=>simp only [jK,List.flatMap_cons,List.length_append,Jb,List.length_cons]at*;omega
theorem pCells_snoc(l:List Ins)(x:Ins):jK (l++[x])=jK l++rS x:=by simp [jK]
theorem FI:∀(l:List Ins) (i r:Nat),i<l.length->r<5->(jK l)[i*5+r]?=(rS (l.getD i default))[r]?
 |[],i,_,h,_=>absurd h (aao i)
 |x::l,0,r,_,hr=>by
  simp only [jK,List.flatMap_cons,Nat.zero_mul,Nat.zero_add,List.getD_cons_zero];rw [aaE (by rw [Jb];exact hr)]
 |x::l,i+1,r,h,hr=>by
  have ih:=FI l i r (by simpa using h) hr;simp only [jK,List.flatMap_cons,List.getD_cons_succ]at*
  rw [aan (by rw [Jb];omega),Jb,show(i+1)*5+r-5=i*5+r by omega];exact ih
theorem byt_of_owns{cap g:Nat}(h:w.ownsRow B 5 1 (.slice (some ⟨g,0,none⟩) n cap) n (eA bs)):mI w (some ⟨g,0,none⟩) bs/\bs.length=n/\n<=cap:=by
 have hlen:bs.length=n:=by have:=h.1;rw [BD]at this;omega
 refine ⟨fun i hi=>⟨g,0,rfl, ?_⟩,hlen, ?_⟩
 ·rw [aaH,h.cellAt i (by omega)];simp [eA,List.getD_eq_getElem?_getD,hi]
 ·rcases h.2 with⟨h',_⟩|⟨g',cap',cur,h',_,_,hnc,_⟩
  ·simp at h'
  ·simp only [Value.slice.injEq]at h';omega
theorem owns_grown{gx:Option Nat}(h:w.ownsRow B e s v n xs)(hg:w.grownBy w' gx)(bC:∀b,v.ownBlock=some b->some b≠gx):w'.ownsRow B e s v n xs:=by
 obtain ⟨h1,h2⟩:=h;refine ⟨h1, ?_⟩;rcases h2 with h2|⟨g,cap,cur,rfl,h3,h4,h5⟩
 ·exact .inl h2
 ·refine .inr ⟨g,cap,cur,rfl,h3, ?_,h5⟩
  rw [hg.block g (by
   rcases aaU g w.heap.size with hx|hx
   ·exact hx
   ·rw [Array.getElem?_eq_none hx]at h4;cases h4) (bC g rfl)]
  exact h4
theorem SS(h:w.ownsRow B e s v n xs)(hb:Below w.heap.size w w'):w'.ownsRow B e s v n xs:=
 owns_grown (gx:=none) h ⟨hb.os,hb.tape,hb.output,hb.size,fun k hk _=>hb.block k hk⟩ (fun b _=>by simp)
theorem info_ins:(prog.info? 35).map (fun i=>(i.zero,i.size,i.bytes))=some (some (.agg #[.int .i64 0,.int .i64 0,.int .i64 0,.int .i64 0,.int .i64 0]),5,40):=by kernel_rfl
theorem decR_at(hn:bs.length=12*n)(h256:n<=256)(hi:i<n)(aY:∀j,j<i->(wrong (fc bs (12*j)) n 8).1=0)(hw:(wrong (fc bs (12*i)) n 8).1≠0):
 je bs=((wrong (fc bs (12*i)) n 8).1,12*(i:Int)+(wrong (fc bs (12*i)) n 8).2):=by
 unfold je;rw [aaf (by omega),aaf (by omega),show bs.length/12=n by omega,UB bs n n 0 i hi (fun j hj=>by rw [aaH];exact aY j hj) (by rw [aaH];exact hw),aaH]
theorem decR_none(hn:bs.length=12*n)(h256:n<=256)(aY:∀j,j<n->(wrong (fc bs (12*j)) n 8).1=0):je bs=(0,0):=by
 unfold je;rw [aaf (by omega),aaf (by omega),show bs.length/12=n by omega,Tn bs n n 0 (fun j hj=>by rw [aaH];exact aY j hj)]
def UE(w:World)(bs:List Nat)(e:Ending)(w':World):Prop:=
 ((je bs).1=0/\∃g cap',e=.returned (.tuple #[.slice (some ⟨g,0,none⟩) (bs.length/12) cap',.int .i64 0,.int .i64 0])/\w'.ownsRow w.heap.size 35 5 (.slice (some ⟨g,0,none⟩) (bs.length/12) cap') (bs.length/12) (jK (Cu bs (bs.length/12)))/\Below w.heap.size w w')\/
 ((je bs).1≠0/\e=.returned (.tuple #[.slice none 0 0,.int .i64 (je bs).1,.int .i64 (je bs).2])/\Below w.heap.size w w')
def Aa(xs:List Value)(k:Nat)(x:Ins):List Value:=((((xs.set k (.int .i64 x.op)).set (k+1) (.int .i64 x.a)).set (k+2) (.int .i64 x.b)).set (k+3) (.int .i64 x.c)).set (k+4) (.int .i64 x.dn)
theorem UF(xs:List Value)(k:Nat)(x:Ins)(hk:k+5<=xs.length)(r:Nat)(hr:r<5):(Aa xs k x)[k+r]?=(rS x)[r]?:=by
 have:r=0\/r=1\/r=2\/r=3\/r=4:=by omega
 unfold Aa;rcases this with rfl|rfl|rfl|rfl|rfl<;>simp only [List.getElem?_set,List.length_set]<;>simp [rS]<;>omega
theorem set5_ne(xs:List Value)(k:Nat)(x:Ins)(t:Nat)(ht:t<k):(Aa xs k x)[t]?=xs[t]?:=by
 unfold Aa;rw [aa9 (by omega),aa9 (by omega),aa9 (by omega),aa9 (by omega),aa9 (by omega)]
def Read(bs:List Nat)(xs:List Value)(i:Nat):Prop:=∀j,j<i->∀r,r<5->xs[j*5+r]?=(rS (fc bs (12*j)))[r]?
theorem Read.step(h:Read bs xs i)(hl:i*5+5<=xs.length)(hx:fc bs (12*i)=x):Read bs (Aa xs (i*5) x) (i+1):=fun j hj r hr=>by
 by_cases e:j=i
 ·subst e;rw [UF _ _ _ hl r hr,hx]
 ·rw [set5_ne _ _ _ _ (by omega)];exact h j (by omega) r hr
theorem Read.all(h:Read bs xs n)(hl:xs.length=n*5):xs=jK (Cu bs n):=by
 apply aaT;intro t;by_cases ht:t<n*5
 ·have h1:=h (t/5) (by omega) (t% 5) (by omega);have h2:=FI (Cu bs n) (t/5) (t% 5) (by rw [TZ];omega) (by omega);rw [decL_at bs n (t/5) (by omega)]at h2;rw [show t/5*5+t% 5=t by omega]at h1 h2;rw [h1,h2]
 ·rw [aas (by omega),aas (by rw [SQ,TZ];omega)]
theorem decode_in(a:Option Addr)(cap n:Nat)(bs:List Nat)(w:World)(hB:mI w a bs)(qQ:bR w)(hb:∀i,bs.getD i 0<256)(iP:bs.length<=cap)(hn:bs.length=12*n)(h256:n<=256):
 Calls prog 171 #[.slice a bs.length cap] w (UE w bs):=by
 obtain ⟨i0,Ei,su,CL,yn⟩:=info_parts info_ins;have HB:Hid (mI w a bs):=hB;have uU:Hid (bR w):=qQ;have Hb:Hid (∀i,bs.getD i 0<256):=hb;have HN:Hid (bs.length=12*n):=hn;have fM:Hid (bs.length=12*n):=hn;obtain ⟨L,hL⟩:=Haa bs.length;have e1:(L:Int)% 12=0:=by have:=hL.out;omega
 have e2:(L:Int)/12=(n:Int):=by have:=hL.out;omega
 have e3:decide ((3072:Int)<(L:Int))=false:=by have:=hL.out;simp;omega
 have e4:L=12*n:=by have:=hL.out;omega
 rw [hL.out]at iP⊢;have XH:Hid (L=12*n):=e4;clear hB hb hn e4 qQ;go_enter func171,ntmps171;go_wp2_with (at_make;refine wpList_make_full _ rfl _ _ 36 rfl w.heap.size 35 i0 (.agg #[.int .i64 0,.int .i64 0,.int .i64 0,.int .i64 0,.int .i64 0]) 5 underlying36 Ei su CL .i64 .i64 _ _ n rfl rfl (by omega) (by omega) (by rw [yn];omega) (by unfold maxLen;omega) (aag _) ?_;intro w0 Oy KJ);have b0:Below w.heap.size w w0:=(aak _ _).grown KJ (aag _) (fun k hk=>by cases hk);clear KJ;generalize (madeCells _ _).toList=xs0 at Oy
 go_loopw [7,8,9,10,27] (fun _ _ _ _ v27 wr=>∃i:Nat,∃xs,v27=.int .i64 i/\i<=n/\wr.ownsRow w.heap.size 35 5 (.slice (some ⟨w.heap.size,0,none⟩) n n) n xs/\Hid (Read bs xs i)/\Hid (∀j,j<i->(wrong (fc bs (12*j)) n 8).1=0)/\Below w.heap.size w wr) (fun _ _ _ _ v27 _=>n-(intOf v27).toNat)
 case atStart=>exact ⟨0,xs0,rfl,aaq _,Oy,hd (fun j hj=>absurd hj (aao j)),hd (fun j hj=>absurd hj (aao j)),b0⟩
 case round=>
  obtain ⟨i,xs,rfl,hi,d_,J6,aY,jh⟩:=hrel;clear Oy b0;by_cases af:i<n
  ·have fI:(i:Int)<(n:Int):=by omega
   have hp:0<bs.length:=by have:=HN.out;omega
   obtain ⟨b,off,rfl⟩:=HB.out.form hp;obtain ⟨F,hF⟩:=Haa (12*i);have eF:(i:Int)*(12:Int)=(F:Int):=by have:=hF.out;omega
   obtain ⟨E,hE⟩:=Haa (F+12);have eE:(F:Int)+12=(E:Int):=by have:=hE.out;omega
   have eEF:E-F=12:=by have:=hE.out;omega
   have hFE:F<=E:=by have:=hE.out;omega
   have hEL:E<=L:=by have:=hF.out;have:=hE.out;have:=XH.out;omega
   have hEc:E<=cap:=by omega
   have jM:∀W,Below w.heap.size w W->_:=fun W kq=>read_any b (off+F) 12 (cap-F) F bs W Hb.out (by omega) (fun r hr=>by
    rw [abw]
    exact (HB.out.kept kq).at (F+r) (by have:=hL.out;have:=hE.out;omega))
   have lK:∀W,Below w.heap.size w W->_:=fun W kq=>Tp (fc bs F) n 8 W (uU.out.kept kq)
   have cD:=jh.size;have hFc:F<cap:=by have:=hE.out;omega
   clear HB Hb HN e1 e2 e3 uU;obtain ⟨x,hx⟩:=Haa (fc bs F);simp only [hx.out]at jM lK;go_wp2_with fail;refine (jM _ jh).mono ?_;rintro e w1 ⟨rfl,b1⟩;have Ej:=jh.trans (b1.mono jh.size);have gi:=Ej.size;have lD:=SS d_ b1;clear d_ jM b1 jh;unfold dC at*
   have PQ:xs.length=n*5:=lD.1
   have key:∀r,r<5->∃u,w1.cell? ⟨w.heap.size,i*5+r,none⟩=some u:=fun r hr=>⟨xs[i*5+r]'(by omega),by rw [lD.cellAt _ (by omega),aad (by omega)]⟩
   obtain ⟨u0,c0⟩:=key 0 (by omega);obtain ⟨u1,c1⟩:=key 1 (by omega);obtain ⟨u2,c2⟩:=key 2 (by omega);obtain ⟨u3,c3⟩:=key 3 (by omega);obtain ⟨u4,c4⟩:=key 4 (by omega);have f0:=lD.frozenAt (i*5);have f1:=lD.frozenAt (i*5+1);have f2:=lD.frozenAt (i*5+2);have f3:=lD.frozenAt (i*5+3);have f4:=lD.frozenAt (i*5+4);rw [aa8]at c0;clear key;go_upto_region 12 with fail;have s1:=lD.stored (i*5) (.int .i64 x.op);have s2:=s1.1.stored (i*5+1) (.int .i64 x.a);have s3:=s2.1.stored (i*5+2) (.int .i64 x.b);have s4:=s3.1.stored (i*5+3) (.int .i64 x.c);have s5:=s4.1.stored (i*5+4) (.int .i64 x.dn);have dH:∀k,some w.heap.size=some k->w.heap.size<=k:=fun k hk=>by cases hk;exact aag _
   have bW:Below w.heap.size w _:=((((Ej.grown s1.2 Ej.size dH).grown s2.2 (Ej.grown s1.2 Ej.size dH).size dH).grown s3.2 (by simpa using gi) dH).grown s4.2 (by simpa using gi) dH).grown s5.2 (by simpa using gi) dH;have Gx:=s5.1;obtain ⟨W,Au⟩:∃W,Hid (W=((((w1.setCell ⟨w.heap.size,i*5,none⟩ (.int .i64 x.op)).setCell ⟨w.heap.size,i*5+1,none⟩ (.int .i64 x.a)).setCell ⟨w.heap.size,i*5+2,none⟩ (.int .i64 x.b)).setCell ⟨w.heap.size,i*5+3,none⟩ (.int .i64 x.c)).setCell ⟨w.heap.size,i*5+4,none⟩ (.int .i64 x.dn)):=⟨_,rfl⟩;rw [<-Au.out]at bW Gx⊢;change W.ownsRow w.heap.size 35 5 _ n (Aa xs (i*5) x)at Gx;clear s1 s2 s3 s4 s5 Au lD Ej c0 c1 c2 c3 c4 f0 f1 f2 f3 f4;have hread':Hid (Read bs (Aa xs (i*5) x) (i+1)):=hd (J6.out.step (by omega) (by rw [hF.out,hx.out]));have kk:∀r,r<5->W.cell? ⟨w.heap.size,i*5+r,none⟩=(rS x)[r]?:=fun r hr=>by
    rw [Gx.cellAt _ (by omega),UF _ _ _ (by omega) r hr]
   have c0:W.cell? ⟨w.heap.size,i*5,none⟩=some (.int .i64 x.op):=kk 0 (by omega);have c1:W.cell? ⟨w.heap.size,i*5+1,none⟩=some (.int .i64 x.a):=kk 1 (by omega);have c2:W.cell? ⟨w.heap.size,i*5+2,none⟩=some (.int .i64 x.b):=kk 2 (by omega);have c3:W.cell? ⟨w.heap.size,i*5+3,none⟩=some (.int .i64 x.c):=kk 3 (by omega);have c4:W.cell? ⟨w.heap.size,i*5+4,none⟩=some (.int .i64 x.dn):=kk 4 (by omega);generalize Aa xs (i*5) x=ys at*
   clear kk PQ J6;go_wp2_with fail;refine (lK _ bW).mono ?_;rintro e w2 ⟨rfl,b2⟩;have XI:=bW.trans (b2.mono bW.size);have Ch:=SS Gx b2;clear lK b2 bW Gx c0 c1 c2 c3 c4;by_cases hw:(wrong x n 8).1=0
   ·have Ox:Hid (∀j,j<i+1->(wrong (fc bs (12*j)) n 8).1=0):=hd (fun j hj=>by
     by_cases e:j=i
     ·rw [e,hF.out,hx.out];exact hw
     ·exact aY.out j (by omega))
    rw [hw];clear hw aY;go_wp2_with fail
    go_roundw
    case rel=>exact ⟨i+1,ys,by go_num,by omega,Ch,hread',Ox,XI⟩
    case measure=>simp [intOf];omega
   ·have hR:Hid (je bs=((wrong x n 8).1,(F:Int)+(wrong x n 8).2)):=hd (by
     have:=decR_at fM.out h256 af aY.out (by rw [hF.out,hx.out];exact hw);rw [hF.out,hx.out]at this
     rw [this,<-hF.out];simp)
    have dE:((wrong x n 8).1==0)=false:=by simpa using hw
    have hA:=Sv x n 8;generalize wrong x n 8=V at*
    obtain ⟨E',A⟩:=V;simp only at*
    have hFb:F<=4000:=by have:=XH.out;omega
    have hA1:(F:Int)+A<=9000:=by omega
    clear aY Ch;go_wp2_with fail
    go_ret3
    refine .inr ⟨by rw [hR.out];exact hw,by rw [hR.out];rfl,XI⟩
  ·have ei:i=n:=by omega
   have z_:decide ((i:Int)<(n:Int))=false:=by simp;omega
   have hR:=decR_none fM.out h256 (fun j hj=>aY.out j (by omega));have HR:Hid (je bs=(0,0)):=hR;have GW:=(show Read bs xs n by rw [<-ei];exact J6.out).all d_.1;rw [GW]at d_;clear aY hR J6;go_wp2_with fail
   go_ret3
   refine .inl ⟨by rw [HR.out],w.heap.size,n, ?_, ?_,jh⟩
   ·rw [show bs.length/12=n by have:=fM.out;omega];rfl
   ·rw [show bs.length/12=n by have:=fM.out;omega];exact d_
theorem decode_any(a:Option Addr)(cap:Nat)(bs:List Nat)(w:World)(hB:mI w a bs)(qQ:bR w)(hb:∀i,bs.getD i 0<256)(iP:bs.length<=cap):
 Calls prog 171 #[.slice a bs.length cap] w (UE w bs):=by
 by_cases h1:3072<bs.length
 ·have HR:Hid (je bs=(3,3072)):=hd (by unfold je;rw [aah h1]);have d1:(3072:Int)<(bs.length:Int):=by omega
  generalize bs.length=L at*
  clear hB qQ hb iP;go_enter func171,ntmps171;go_wp2_with fail
  go_ret3
  exact .inr ⟨by rw [HR.out];simp,by rw [HR.out];rfl,aak _ _⟩
 ·by_cases h2:bs.length% 12=0
  ·exact decode_in a cap (bs.length/12) bs w hB qQ hb iP (by omega) (by omega)
  ·have HR:Hid (je bs=((5:Int),(bs.length:Int))):=hd (by unfold je;rw [aaf h1,aah h2]);have d1:decide ((3072:Int)<(bs.length:Int))=false:=by simp;omega
   have d2:((bs.length:Int)% 12==0)=false:=by simp;omega
   generalize bs.length=L at*
   clear hB qQ hb iP;go_enter func171,ntmps171;go_wp2_with fail
   go_ret3
   exact .inr ⟨by rw [HR.out];simp,by rw [HR.out];rfl,aak _ _⟩
end Go.Proofs.YthopnfbjiifhhaaGreatDoor
