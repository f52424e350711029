/- End. -/
import Derived.Test.YthopnfbjiifhhaaGreatDoorGJm
set_option maxHeartbeats 4000000
set_option maxRecDepth 100000
namespace Go.Proofs.YthopnfbjiifhhaaGreatDoor.aV
open Go.RowKit Go.Maps Go.Proofs.Tryz
structure Aj(w wr:World)(b m:Nat)(ao:Option Addr)(co:Nat)(aq:Option Addr)(cq:Nat)(rm:List Qe)(os:List Int)(qs:Qs)(hl:List Int)(ah:Option Addr)(nh ch:Nat)(out:List (Int×Int))(a:Option Addr)(n c:Nat):Prop where
 ex:∃es,LM wr b m ao co aq cq os es (h_ qs) (total qs)/\gE es=qs/\(∀k,eY b m ao aq es k->eY b m ao aq rm k\/w.heap.size<=k)/\(∀k,ae ah=some k->¬eY b m ao aq es k)/\(∀k,ae a=some k->¬eY b m ao aq es k)
 good:fw os qs
 mod:Mod (eY b m ao aq rm) w wr
 held:Row wr 3 1 ah nh ch (iC hl)
 hlen:hl.length=nh
 row:Row wr 272 2 a n c (wC out)
 Kl:out.length=n
 ap:∀k,ae ah=some k->ae a≠some k
 anew:∀k,ae a=some k->w.heap.size<=k
section
variable{w wr w':World} {b m:Nat} {ao:Option Addr} {co:Nat} {aq:Option Addr} {cq:Nat} {rm:List Qe} {os:List Int} {qs:Qs} {hl:List Int} {ah:Option Addr} {nh ch:Nat} {out:List (Int×Int)} {a:Option Addr} {n c:Nat}
theorem Aj.hand(h:Aj w wr b m ao co aq cq rm os qs hl ah nh ch out a n c){i:Nat}(hi:i<os.length)(ht:total qs<=8796093022208):
 Calls prog 201 #[.pointer (some ⟨b,0,none⟩),.int .i64 (i:Int)] wr fun e w'=>e=.returned (.tuple #[])/\Aj w w' b m ao co aq cq rm (kJ os qs i) (pT qs i) hl ah nh ch out a n c:=by
 obtain ⟨es,h1,h2,h3,h4,h5⟩:=h.ex;refine (hand_any h1 h.good h2 hi ht).mono ?_;rintro e w' ⟨rfl,es',t1,t2,t3,t4⟩;have Ha:=h.held.lt;have ha:=h.row.lt;refine ⟨rfl,⟨es',t1,t2,fun k hk=> ?_,fun k hk hm=> ?_,fun k hk hm=> ?_⟩,h.good.hand i,h.mod.trans t3 (fun k hk=>h3 k hk),h.held.mod t3 h4,h.hlen,h.row.mod t3 h5,h.Kl,h.ap,h.anew⟩
 ·rcases t4 k hk with h6|h6
  ·exact h3 k h6
  ·exact .inr (aai h.mod.size h6)
 ·rcases t4 k hm with h6|h6
  ·exact h4 k hk h6
  ·have:=Ha k hk;omega
 ·rcases t4 k hm with h6|h6
  ·exact h5 k hk h6
  ·have:=ha k hk;omega
theorem Aj.push(h:Aj w wr b m ao co aq cq rm os qs hl ah nh ch out a n c)(hn:n<1000)(x y:Int):
 ∃a' c' w',(∀ty,(Builtin.append_ #[269,269] ty #[.slice a n c,.slice (some ⟨wr.heap.size,0,none⟩) 1 1]).run prog (wr.alloc (.cells #[.int .i64 x,.int .i64 y] 272))=.ok (.slice a' (n+1) c') w')/\Aj w w' b m ao co aq cq rm os qs hl ah nh ch (out++[(x,y)]) a' (n+1) c':=by
 obtain ⟨es,h1,h2,h3,h4,h5⟩:=h.ex;obtain ⟨a',c',w',m1,m2,m3,m4⟩:=mX (T:=269) underlying269 infoG rfl h.row (by unfold maxLen;omega) (by omega) [.int .i64 x,.int .i64 y] rfl (by simp [Value.oneCell']);have ko:∀k,eY b m ao aq es k\/ae ah=some k->ae a'≠some k:=fun k hk e=>by
  rcases m4 k e with h6|h6
  ·rcases hk with hk|hk
   ·exact h5 k h6 hk
   ·exact h.ap k hk h6
  ·rcases hk with hk|hk
   ·have:=h1.lt k hk;omega
   ·have:=h.held.lt k hk;omega
 refine ⟨a',c',w',m1,⟨es,h1.mod m3 (fun k hk e=>h5 k e hk),h2,h3,h4,fun k hk hm=>ko k (.inl hm) hk⟩,h.good,h.mod.trans m3 (fun k hk=> .inr (h.anew k hk)),h.held.mod m3 h.ap,h.hlen,by rw [Ca];exact m2,by simp [h.Kl],fun k hk=>ko k (.inr hk),fun k hk=> ?_⟩;rcases m4 k hk with h6|h6
 ·exact h.anew k h6
 ·exact aai h.mod.size h6
end
variable{os:List Int}{qs:Qs}{i:Nat}{p:Int}
theorem endF_drop{hl:List Int}{out:List (Int×Int)}{j:Nat}(hi:i<hl.length)(hj:hl.getD i 0=(j:Int)):oH (hl.drop i) os qs out=oH (hl.drop (i+1)) (kJ os qs j) (pT qs j) (out++[((j:Int),jo (kJ os qs j) j)]):=by
 have e:hl.drop i=(j:Int)::hl.drop (i+1):=by
  rw [aa2 hi,<-hj,aac,aad hi];rfl
 rw [e];show oH (hl.drop (i+1)) (kJ os qs (j:Int).toNat) (pT qs (j:Int).toNat) (out++[((j:Int),jo (kJ os qs (j:Int).toNat) (j:Int).toNat)])=_;rw [aa7]
theorem hold_at(hi:i<(hold os p).length):∃j:Nat,(hold os p).getD i 0=(j:Int)/\j<os.length:=by
 have:(hold os p).getD i 0∈hold os p:=by
  rw [aac,aad hi];exact aaG hi
 obtain ⟨j,h1,h2,-,-⟩:=mem_holdTo.1 this;exact ⟨j,h1,h2⟩
def Cd(w:World)(b:Nat)(F:Nat->Prop)(Qb:List Int)(He:Qs)(out:List (Int×Int))(e:Ending)(w':World):Prop:=
 Mod F w w'/\∃F' a c,e=.returned (.slice a out.length c)/\Lk w' b F' Qb He/\(∀k,F' k->F k\/w.heap.size<=k)/\Row w' 272 2 a out.length c (wC out)/\∀k,ae a=some k->w.heap.size<=k/\¬F' k
theorem NL{w:World}{b:Nat}{F:Nat->Prop}(h:Lk w b F os qs)(ht:total qs<=8796093022208)(hp:ic p):
 Calls prog 165 #[.pointer (some ⟨b,0,none⟩),.int .i64 p] w fun e w'=>Cd w b F (qM os qs p).1 (qM os qs p).2.1 (qM os qs p).2.2 e w':=by
 obtain ⟨hG,m,ao,co,aq,cq,es,hL,hq,hF,-⟩:=h;have sJ:=Tz hL hp;have HL:=hd hL;have HG:=hd hG;have HQ:=hd hq;have HF:=hd hF;have HP:=hd hp;have nV:Hid (total (nz qs p)<=8796093022208):=hd (aai (total_away qs p) ht);obtain ⟨R,hR⟩:=Haa (qM os qs p);rw [hR.out];obtain ⟨v1,AV⟩:=Haa ((h_ qs p).getD 0);obtain ⟨v2,AX⟩:=Haa ((h_ qs p).isSome);rw [AV.out,AX.out]at sJ;have HT:=hd ht;clear hL hG hq hF hp ht;go_enter func165,ntmps165;go_upto_if 16 with(first|(go_at_call 172;refine sJ.mono ?_;rintro e3 w3 ⟨rfl,rfl⟩));go_cut [17,18,19,20] (fun _ _ _ _ wy=>Hid (LT w3 b m ao co aq cq es os (nz qs p) wy))
 case first=>
  cases hw:wt qs p with
  |none=>
   obtain rfl:v2=false:=by rw [<-AX.out];unfold h_;rw [hw];rfl
   have HE:Hid (LT w3 b m ao co aq cq es os (nz qs p) w3):=hd (by
    have e:nz qs p=qs:=by unfold nz;rw [hw]
    rw [e]
    exact ⟨es,HL.out,HQ.out,Mod.refl _ _,fun k hk=> .inl hk⟩)
   clear hw HL HG HQ HF HP nV hR AV AX HT;go_wp2_with fail;go_meet
   case rel=>exact HE
  |some i=>
   obtain rfl:v2=true:=by rw [<-AX.out];unfold h_;rw [hw];rfl
   obtain rfl:v1=(i:Int):=by rw [<-AV.out];unfold h_;rw [hw];rfl
   have hm:=(JK HG.out.once).1 hw;have bP:=DY hm;have AM:aW qs i=(bN es i).2.2:=by rw [<-HQ.out,Cb]
   have mK:=Jj HL.out (i:=i) (by rw [<-xO,HQ.out];exact bP) HP.out (by rw [<-AM];exact hm) (by rw [<-AM];exact HG.out.nd i) (by rw [<-AM];exact aai (Ng i) HT.out)
   have HE:Hid (∀w',F8 w3 b m ao co aq cq os es (h_ qs) (total qs) i p w'->LT w3 b m ao co aq cq es os (nz qs p) w'):=hd (fun w' hl=>by
    have e:nz qs p=rV qs i p:=by unfold nz;rw [hw]
    rw [e]
    exact Ue HG.out HQ.out hm hl)
   clear hw HL HG HQ HF HP nV hR AV AX HT hm bP AM;go_wp2_with (first|(go_at_call 200;refine mK.mono ?_;rintro e4 w4 ⟨rfl,AQ⟩));go_meet
   case rel=>exact hd (HE.out _ AQ)
 case rest=>
  clear sJ AV AX HT HP;obtain ⟨Ho,t1,t2,t3,t4⟩:=hcut.out;have Hp:=HG.out.away p;have Yd:=holds_any t1.lb Hp.le (fun i=>(Hp.oFit i).1) p
  have HI:Hid (∀ah nh ch w',tT wc (hold os p) w' ah nh ch->Aj w3 w' b m ao co aq cq es os (nz qs p) (hold os p) ah nh ch [] none 0 0):=hd (fun ah nh ch w' ho=>by
   obtain ⟨h1,h2,h3,h4⟩:=ho;refine ⟨⟨Ho,t1.below h3,t2,t4,fun k hk hm=> ?_,fun k hk=>by cases hk⟩,Hp,t3.after h3,h2,h1,Row.nil,rfl,(fun k _ e=>by cases e),(fun k hk=>by cases hk)⟩;have:=t1.lt k hm;have:=h4 k hk
   omega)
  have mO:Hid ((hold os p).length<=8):=hd (aai (S9 _ _ _) HG.out.le);have lQ:Hid (os.length<=8):=hd HG.out.le;clear hcut t1 t2 t3 t4 Hp HL HG HQ;go_wp2_with (first|(go_at_call 195;refine Yd.mono ?_;rintro e5 w5 ⟨ah,nh,ch,rfl,En⟩));have HS:=hd (HI.out ah nh ch w5 En);have hnh:nh<=8:=by rw [<-En.1];exact mO.out
  have Hq:=hd En.1;clear Yd HI En;go_loopg [7,9,25,26,27,28,29,30,31,32,33,34,35,36,37,38,39,40,41,42,43,44] nh (fun k v7 _ v25 _ _ _ _ _ _ _ _ _ _ _ _ _ _ _ _ _ _ _ wr=>∃(i c:Nat) (a:Option Addr),i+k=nh/\v25=.int .i64 (i:Int)/\v7=.slice a i c/\Hid (∃yI vA Ak,Aj w3 wr b m ao co aq cq es yI vA (hold os p) ah nh ch Ak a i c/\yI.length=os.length/\total vA<=8796093022208/\oH ((hold os p).drop i) yI vA Ak=R))
  case atStart=>exact ⟨0,0,none,by omega,by go_num,rfl,hd ⟨os,nz qs p,[],HS.out,rfl,nV.out,by rw [List.drop_zero];exact hR.out⟩⟩
  case round=>
   obtain ⟨i,c,a,dh,rfl,rfl,HX⟩:=hrel;clear HS;by_cases h0:gk=0
   · subst h0;have hi:i=nh:=by omega
     subst hi
     have HE:Hid (Cd w3 b F R.1 R.2.1 R.2.2 (.returned (.slice a i c)) wr):=hd (by
      obtain ⟨yI,vA,Ak,h1,h2,h3,h4⟩:=HX.out;rw [abc (by rw [Hq.out];omega)]at h4;rw [<-h4];obtain ⟨Ye,s1,s2,s3,s4,s5⟩:=h1.ex;refine ⟨h1.mod.mono (fun k _ hk=>HF.out k hk),eY b m ao aq Ye,a,c,by rw [show(oH [] yI vA Ak).2.2=Ak from rfl,h1.Kl],⟨h1.good,m,ao,co,aq,cq,Ye,s1,s2,fun _ h=>h,s1.lt⟩,fun k hk=> ?_, ?_,fun k hk=>⟨h1.anew k hk,s5 k hk⟩⟩
      · rcases s3 k hk with h5|h5
        · exact .inl (HF.out k h5)
        · exact .inr h5
      · show Row wr 272 2 a Ak.length c (wC Ak);rw [h1.Kl]
        exact h1.row)
     clear dh HX hR nV mO Hq HF;go_wp2_with fail;go_ret;exact HE.out
   · have af:i<nh:=by omega
     obtain ⟨yI,vA,Ak,h1,h2,h3,h4⟩:=HX.out;obtain ⟨j,hj,jG⟩:=hold_at (os:=os) (p:=p) (i:=i) (by rw [Hq.out];exact af);obtain ⟨gh,rfl,chd⟩:=h1.held.cell i (by omega);rw [rW _ i (by rw [Hq.out];exact af) 0,hj]at chd;have Qj:=h1.hand (i:=j) (by rw [h2];exact jG) h3;rw [endF_drop (by rw [Hq.out];exact af) hj]at h4;have hj8:j<8:=by have:=lQ.out;omega
     have oM:(kJ yI vA j).length=os.length:=by rw [handO_len];exact h2
     have vf:total (pT vA j)<=8796093022208:=aai (Ty (List.tail_sublist _)) h3;obtain ⟨ov,Hr⟩:=Haa (jo (kJ yI vA j) j);rw [Hr.out]at h4;obtain ⟨Qk,WU⟩:=Haa (kJ yI vA j);obtain ⟨Ql,WV⟩:=Haa (pT vA j);rw [WU.out]at h4 oM Hr Qj;rw [WV.out]at h4 vf Qj;obtain ⟨no,gM⟩:=Haa os.length;have uo:j<no:=by rw [<-gM.out];exact jG
     have HH4:=hd h4;have Qm:=hd oM;have HH3:=hd vf;clear h1 h2 h3 h4 oM vf hj HX h0 WU WV jG
     go_wp2_with (first
      |(go_at_call 201;refine Qj.mono ?_;rintro e6 w6 ⟨rfl,KW⟩
        have HI6:=hd KW;obtain ⟨es6,s1,-⟩:=KW.ex;have d0:=s1.lb.c0;obtain ⟨go,ego,dj⟩:=s1.lb.owner j (by rw [Qm.out,gM.out];exact uo);subst ego;rw [Qm.out,gM.out]at d0;rw [Hr.out]at dj;obtain ⟨a',c',w7,aO,Yf⟩:=KW.push (by omega) (j:Int) ov;replace aO:=hd aO;have HI7:=hd Yf
        clear s1 KW Yf)
      |(at_builtin;refine dZ rfl _ _ _ rfl _ _ _ _ rfl rfl aO.out ?_;clear aO))
     go_roundg (gk-1)
     case rel=>exact ⟨i+1,c',a',by omega,by go_num,rfl,hd ⟨Qk,Ql,_,HI7.out,Qm.out,HH3.out,HH4.out⟩⟩
     case measure=>omega
structure QL(w:World)(B lo:Nat)(a:Option Addr)(c:Nat)(es:List Qe):Prop where
 row:Row w 23 1 a es.length c (sC es)
 qs:∀i,lo<=i->i<es.length->Qw w (bN es i)
 nb:∀k,ae a=some k->B<=k
 qb:∀i,lo<=i->i<es.length->∀k,ae (bN es i).1=some k->B<=k/\ae a≠some k
 qq:∀i j,lo<=i->lo<=j->i<es.length->j<es.length->i≠j->∀k,ae (bN es i).1=some k->ae (bN es j).1≠some k
def yJ(lo:Nat)(a:Option Addr)(es:List Qe)(k:Nat):Prop:=ae a=some k\/∃i,lo<=i/\i<es.length/\ae (bN es i).1=some k
section
variable{w w':World} {B lo:Nat} {a:Option Addr} {c:Nat} {es:List Qe}
theorem QL.lt(h:QL w B lo a c es):∀k,yJ lo a es k->k<w.heap.size:=fun k hk=>by
 rcases hk with hk|⟨i,h1,h2,hk⟩
 ·exact h.row.lt k hk
 ·exact (h.qs i h1 h2).lt k hk
theorem QL.ge(h:QL w B lo a c es):∀k,yJ lo a es k->B<=k:=fun k hk=>by
 rcases hk with hk|⟨i,h1,h2,hk⟩
 ·exact h.nb k hk
 ·exact (h.qb i h1 h2 k hk).1
theorem QL.mod{S:Nat->Prop}(h:QL w B lo a c es)(hm:Mod S w w')(hn:∀k,yJ lo a es k->¬S k):QL w' B lo a c es:=
 ⟨h.row.mod hm (fun k hk=>hn k (.inl hk)),fun i h1 h2=>(h.qs i h1 h2).mod hm (fun k hk=>hn k (.inr ⟨i,h1,h2,hk⟩)),h.nb,h.qb,h.qq⟩
theorem QL.below(h:QL w B lo a c es)(hb:Below w.heap.size w w'):QL w' B lo a c es:=h.mod (Mod.aS (fun _=>False) hb) (fun _ _ h=>h)
theorem QL.cell(h:QL w B lo a c es)(i:Nat)(hi:i<es.length):∃g,a=some ⟨g,0,none⟩/\w.cell? ⟨g,i,none⟩=some (.slice (bN es i).1 (bN es i).2.2.length (bN es i).2.1)/\w.frozen? ⟨g,i,none⟩=false:=by
 obtain ⟨g,rfl,h0⟩:=h.row.cell i (by omega);exact ⟨g,rfl,by rw [h0,OC es i hi];rfl,h.row.free i g rfl⟩
theorem QL.put{g:Nat}(h:QL w B lo (some ⟨g,0,none⟩) c es){i:Nat}(hi:i<es.length){e':Qe}(hq:Qw w e')(hn:∀k,ae e'.1=some k->B<=k/\¬yJ lo (some ⟨g,0,none⟩) es k):
 QL (w.setCell ⟨g,i,none⟩ (sV e')) B lo (some ⟨g,0,none⟩) c (es.set i e'):=by
 have hm:Mod (fun k=>k=g) w (w.setCell ⟨g,i,none⟩ (sV e')):=(Mod.refl (fun k=>k=g) w).setCell (.inl rfl) _;have hp:=h.row.put i (sV e');rw [Vo]at hp;refine ⟨by rw [aaz];exact hp,fun j h1 hj=> ?_,h.nb,fun j h1 hj k hk=> ?_,fun j l h1 h2 hj hl jG k hk=> ?_⟩
 ·rw [aaz]at hj;rw [BV hi];split
  ·exact hq.mod hm (fun k hk e=>(hn k hk).2 (.inl (by rw [e];rfl)))
  ·exact (h.qs j h1 hj).mod hm (fun k hk e=>(h.qb j h1 hj k hk).2 (by rw [e];rfl))
 ·rw [aaz]at hj;rw [BV hi]at hk;split at hk
  ·exact ⟨(hn k hk).1,fun e=>(hn k hk).2 (.inl e)⟩
  ·exact h.qb j h1 hj k hk
 ·rw [aaz]at hj hl;rw [BV hi]at hk⊢;split at hk
  ·rw [aaf (by omega)];exact fun e=>(hn k hk).2 (.inr ⟨l,h2,hl,e⟩)
  ·split
   ·exact fun e=>(hn k e).2 (.inr ⟨j,h1,hj,hk⟩)
   ·exact h.qq j l h1 h2 hj hl jG k hk
end
structure Told(w:World)(os:List Int)(qs:Qs)(w':World)(a1:Option Addr)(c1:Nat)(a2:Option Addr)(c2:Nat)(es:List Qe):Prop where
 own:Row w' 3 1 a1 os.length c1 (iC os)
 ql:QL w' w.heap.size 0 a2 c2 es
 qs:gE es=qs
 new:∀k,ae a1=some k->w.heap.size<=k/\¬yJ 0 a2 es k
 au:Below w.heap.size w w'
theorem TC(n:Nat):(madeCells (Value.slice none 0 0).cells (n*1)).toList=sC (List.replicate n (none,0,[])):=by
 rw [sC,List.map_replicate,Nat.mul_one];apply aaT;intro i;unfold madeCells;by_cases h:i<n
 ·simp [sV,Value.cells,h,Nat.mod_one]
 ·simp [sV,Value.cells,h,Nat.mod_one]
theorem Nl(n i:Nat):bN (List.replicate n (none,0,[])) i=(none,0,[]):=by
 unfold bN;rw [aac,abf];split<;>rfl
theorem qsOf_ext{es:List Qe}{qs:Qs}(hl:es.length=qs.length)(h:∀j,j<es.length->(bN es j).2.2=aW qs j):gE es=qs:=by
 apply aaT;intro j;rcases aaU j es.length with h1|h1
 ·have h2:=h j h1;rw [<-Cb]at h2;unfold aW at h2;rw [aac,aac,aad (by rw [xO];exact h1),aad (by omega)]at h2;rw [aad (by rw [xO];exact h1),aad (by omega)];simpa using h2
 ·rw [aas (by rw [xO];exact h1),aas (by omega)]
theorem MV{w:World}{b:Nat}{F:Nat->Prop}{os:List Int}{qs:Qs}(h:Lk w b F os qs)(ht:total qs<=8796093022208):
 Calls prog 123 #[.pointer (some ⟨b,0,none⟩)] w fun e w'=>∃a1 c1 a2 c2 es,e=.returned (.tuple #[.slice a1 os.length c1,.slice a2 os.length c2])/\Told w os qs w' a1 c1 a2 c2 es:=by
 obtain ⟨hG,m,ao,co,aq,cq,rm,hL,hq,hF,-⟩:=h;have hL:=hL.lb;have c1:=hL.c1;have j6:rm.length=os.length:=by rw [<-hG.n,<-hq,xO]
 have h8:=hG.le;have kU:qs.length=os.length:=hG.n;obtain ⟨n,hN⟩:=Haa os.length;rw [hN.out]at j6 h8 kU;rw [j6]at c1
 have HC:Hid (∀i,i<n->∀wr,Below w.heap.size w wr->∃g,aq=some ⟨g,0,none⟩/\wr.cell? ⟨g,i,none⟩=some (.slice (bN rm i).1 (aW qs i).length (bN rm i).2.1)/\Rd wr (bN rm i).1 (iC (aW qs i))/\(aW qs i).length<=8796093022208):=hd (fun i hi wr hb=>by
  have Hs:=hL.below hb;have e:aW qs i=(bN rm i).2.2:=by rw [<-hq,Cb]
  obtain ⟨g,h1,h2⟩:=Hs.queue i (by omega);rw [e]
  exact ⟨g,h1,h2,(Hs.qs i (by omega)).rd,by rw [<-e];exact aai (Ng i) ht⟩)
 have HO:Hid (∀wr,Below w.heap.size w wr->wr.cell? ⟨b,0,none⟩=some (.slice ao n co)/\Rd wr ao (iC os)):=hd (fun wr hb=>by
  have Hs:=hL.below hb;have:=Hs.c0;rw [hN.out]at this
  exact ⟨this,Hs.ro.rd⟩)
 have Hg:=hd j6;have Qn:=hd kU;rw [hN.out];have iJ:=tF 107 23 _ 1 24 underlying107 VT n (by omega) (by unfold maxLen;omega) w;have cQ:b<w.heap.size:=hL.blt;clear hL j6 kU hG hq hF ht;obtain ⟨w1,aR⟩:=Haa (w.alloc (.cells (madeCells (Value.slice none 0 0).cells (n*1)) 23));rw [aR.out]at iJ;go_enter func123,ntmps123;go_upto_region 2 with fail;have jO:Hid (Below w.heap.size w w1):=hd (by rw [<-aR.out];exact aA w _)
 have HS:Hid (QL w1 w.heap.size 0 (some ⟨w.heap.size,0,none⟩) n (List.replicate n (none,0,[]))):=hd (by
  have hh:=aae w (.cells (madeCells (Value.slice none 0 0).cells (n*1)) 23);rw [aR.out]at hh;have cD:(madeCells (Value.slice none 0 0).cells (n*1)).size=n*1:=by
   rw [<-Array.length_toList,TC,sC_len];simp
  have hr:=mZ (size:=1) (n:=n) hh cD (by unfold maxLen;omega);rw [TC]at hr
  refine ⟨by rw [aaM];exact hr,(fun i _ _=>by rw [Nl];exact Qw.J7 w1),(fun k hk=>by cases hk;exact aag _),(fun i _ _ k hk=>by rw [Nl]at hk;cases hk),(fun i j _ _ _ _ _ k hk=>by rw [Nl]at hk;cases hk)⟩)
 have rr:w1.cell? ⟨b,1,none⟩=some (.slice aq n cq):=(jO.out.cell (p:=⟨b,1,none⟩) cQ).trans c1;obtain ⟨G,hG⟩:=Haa w.heap.size;have ru:Hid (QL w1 w.heap.size 0 (some ⟨G,0,none⟩) n (List.replicate n (none,0,[]))):=hd (by have:=HS.out;rw [hG.out]at this⊢;exact this);rw [hG.out];clear HS iJ aR c1;go_wp2_with fail;go_loopg [5,6,18,19,20,21,22,23,24,25,26,27,28] n (fun k _ _ v18 _ _ _ _ _ _ _ _ _ _ wr=>∃i:Nat,i+k=n/\v18=.int .i64 (i:Int)/\Hid (∃es,QL wr w.heap.size 0 (some ⟨G,0,none⟩) n es/\es.length=n/\(∀j,j<i->(bN es j).2.2=aW qs j)/\Below w.heap.size w wr))
 case atStart=>exact ⟨0,by omega,by go_num,hd ⟨_,ru.out,by simp,fun j hj=>absurd hj (aao _),jO.out⟩⟩
 case round=>
  obtain ⟨i,dh,rfl,HX⟩:=hrel;clear ru jO rr;obtain ⟨es,h1,h2,h3,h4⟩:=HX.out;by_cases h0:gk=0
  · subst h0;have hi:i=n:=by omega
    subst hi;obtain ⟨d0,AY⟩:=HO.out wr h4;have jx:=FF (c:=co) AY (n:=i) (by rw [oo,hN.out];omega) (tH _) (by omega)
    have HE:Hid (∀w' a1 c1,Row w' 3 1 a1 i c1 (iC os)->Below wr.heap.size wr w'->(∀k,ae a1=some k->wr.heap.size<=k)->Told w os qs w' a1 c1 (some ⟨G,0,none⟩) i es):=hd (fun w' a1 c1 r1 r2 r3=>by
     refine ⟨by rw [hN.out];exact r1,h1.below r2,qsOf_ext (by rw [h2,Qn.out]) (fun j hj=>h3 j (by omega)),fun k hk=> ?_,h4.trans (r2.mono h4.size)⟩;have:=r3 k hk;refine ⟨aai h4.size this,fun hq=> ?_⟩;have:=h1.lt k hq
     omega)
    clear HX h1 h2 h3 h4 dh HC HO AY Hg Qn;go_wp2_with (first|(go_at_call 146;refine jx.mono ?_;rintro e3 w3 ⟨a1,c1,rfl,r1,r2,r3⟩));go_ret2;exact ⟨a1,c1,_,_,es,rfl,HE.out _ _ _ r1 r2 r3⟩
  · have af:i<n:=by omega
    obtain ⟨g,rfl,d1,jM,kz⟩:=HC.out i af wr h4;obtain ⟨ln,AZ⟩:=Haa ((aW qs i).length);rw [AZ.out]at d1 kz;have jx:=FF (c:=(bN rm i).2.1) jM (n:=ln) (by rw [oo,AZ.out];omega) (tH _) kz
    have HE:Hid (∀w' a1 c1,Row w' 3 1 a1 ln c1 (iC (aW qs i))->Below wr.heap.size wr w'->(∀k,ae a1=some k->wr.heap.size<=k)->(∃u,w'.cell? ⟨G,i,none⟩=some u)/\w'.frozen? ⟨G,i,none⟩=false/\∃es',QL (w'.setCell ⟨G,i,none⟩ (.slice a1 ln c1)) w.heap.size 0 (some ⟨G,0,none⟩) n es'/\es'.length=n/\(∀j,j<i+1->(bN es' j).2.2=aW qs j)/\Below w.heap.size w (w'.setCell ⟨G,i,none⟩ (.slice a1 ln c1))):=hd (fun w' a1 c1 r1 r2 r3=>by
     have kU:=h1.below r2;obtain ⟨g',eg,y1,y2⟩:=kU.cell i (by omega)
     cases eg
     have KX:Qw w' (a1,c1,aW qs i):=by
      unfold Qw;rw [AZ.out];exact r1.ro
     have hp:=kU.put (i:=i) (by omega) KX (fun k hk=>⟨aai h4.size (r3 k hk),fun hq=>by have:=h1.lt k hq;have:=r3 k hk;omega⟩);unfold sV at hp;simp only [AZ.out]at hp;refine ⟨⟨_,y1⟩,y2,_,hp,by rw [aaz];exact h2,fun j hj=> ?_, ?_⟩
     · rw [BV (by omega)];split
       · rename_i e;rw [<-e]
       · exact h3 j (by omega)
     · have b1:=h4.trans (r2.mono h4.size);have b2:Mod (fun k=>k=G) w' (w'.setCell ⟨G,i,none⟩ (.slice a1 ln c1)):=(Mod.refl (fun k=>k=G) w').setCell (.inl rfl) _
       exact b1.trans (b2.below b1.size (fun k _ e=>by rw [e,hG.out];exact aag _)))
    clear HX h1 h2 h3 h4 h0 HC HO jM Hg Qn kz
    go_wp2_with (first|(go_at_call 146;refine jx.mono ?_;rintro e3 w3 ⟨a1,c1,rfl,r1,r2,r3⟩
                        obtain ⟨⟨u,y1⟩,y2,Yg⟩:=HE.out w3 a1 c1 r1 r2 r3;have HES:=hd Yg
                        clear Yg r1 r2 r3))
    go_roundg (gk-1)
    case rel=>exact ⟨i+1,by omega,by go_num,HES⟩
    case measure=>omega
section
variable{w w':World} {b m:Nat} {ao:Option Addr} {co:Nat} {aq:Option Addr} {cq:Nat} {os:List Int} {es:List Qe} {f:Int->Option Int} {n:Nat}
theorem LM.OD(h:LM w b m ao co aq cq os es f n){w2:World}(hm:Mod (fun k=>ae ao=some k) w w2){ku:Option Addr}{nR:Nat}{v:Int}(hR:Row w2 3 1 ku (os.length+1) nR (iC os++iC [v]))(hn:∀k,ae ku=some k->ae ao=some k\/w.heap.size<=k):
 LM (w2.setCell ⟨b,0,none⟩ (.slice ku (os.length+1) nR)) b m ku nR aq cq (os++[v]) es f n/\Mod (eY b m ao aq es) w (w2.setCell ⟨b,0,none⟩ (.slice ku (os.length+1) nR))/\∀k,eY b m ku aq es k->eY b m ao aq es k\/w.heap.size<=k:=by
 have cO:Mod (fun k=>k=b) w2 (w2.setCell ⟨b,0,none⟩ (.slice ku (os.length+1) nR)):=(Mod.refl (fun k=>k=b) w2).setCell (.inl rfl) _;have gZ:∀k,lfp b ku aq es k->lfp b ao aq es k\/w.heap.size<=k:=fun k hk=>by
  rcases hk with hk|hk|hk|hk
  ·exact .inl (.inl hk)
  ·rcases hn k hk with h1|h1
   ·exact .inl (.inr (.inl h1))
   ·exact .inr h1
  ·exact .inl (.inr (.inr (.inl hk)))
  ·exact .inl (.inr (.inr (.inr hk)))
 refine ⟨⟨h.lb.OD hm hR hn,(h.map.mod hm (fun e=>h.ap (.inr (.inl e)))).mod cO (fun e=>h.ap (.inl e)),fun e=> ?_⟩,(hm.mono (fun k _ hk=> .inr (.inr (.inl hk)))).trans cO (fun k hk=> .inl (.inr (.inl hk))),fun k hk=> ?_⟩
 ·rcases gZ m e with h1|h1
  ·exact h.ap h1
  ·have:=h.map.lt;omega
 ·rcases hk with hk|hk
  ·exact .inl (.inl hk)
  ·rcases gZ k hk with h1|h1
   ·exact .inl (.inr h1)
   ·exact .inr h1
theorem LM.D2(h:LM w b m ao co aq cq os es f n){w2:World}(hm:Mod (fun k=>ae aq=some k) w w2){iw:Option Addr}{kv:Nat}{e':Qe}(hR:Row w2 23 1 iw (es.length+1) kv (sC es++sC [e']))(hn:∀k,ae iw=some k->ae aq=some k\/w.heap.size<=k)(hq:Qw w2 e')(bC:∀k,ae e'.1=some k->w.heap.size<=k/\ae iw≠some k):
 LM (w2.setCell ⟨b,1,none⟩ (.slice iw (es.length+1) kv)) b m ao co iw kv os (es++[e']) f n/\Mod (eY b m ao aq es) w (w2.setCell ⟨b,1,none⟩ (.slice iw (es.length+1) kv))/\∀k,eY b m ao iw (es++[e']) k->eY b m ao aq es k\/w.heap.size<=k:=by
 have cO:Mod (fun k=>k=b) w2 (w2.setCell ⟨b,1,none⟩ (.slice iw (es.length+1) kv)):=(Mod.refl (fun k=>k=b) w2).setCell (.inl rfl) _;have gZ:∀k,lfp b ao iw (es++[e']) k->lfp b ao aq es k\/w.heap.size<=k:=fun k hk=>by
  rcases hk with hk|hk|hk|⟨i,hi,hk⟩
  ·exact .inl (.inl hk)
  ·exact .inl (.inr (.inl hk))
  ·rcases hn k hk with h1|h1
   ·exact .inl (.inr (.inr (.inl h1)))
   ·exact .inr h1
  ·simp only [List.length_append,List.length_singleton]at hi;rw [F7 hi]at hk;split at hk
   ·exact .inr (bC k hk).1
   ·exact .inl (.inr (.inr (.inr ⟨i,by omega,hk⟩)))
 refine ⟨⟨h.lb.D2 hm hR hn hq bC,(h.map.mod hm (fun e=>h.ap (.inr (.inr (.inl e))))).mod cO (fun e=>h.ap (.inl e)),fun e=> ?_⟩,(hm.mono (fun k _ hk=> .inr (.inr (.inr (.inl hk))))).trans cO (fun k hk=> .inl (.inr (.inl hk))),fun k hk=> ?_⟩
 ·rcases gZ m e with h1|h1
  ·exact h.ap h1
  ·have:=h.map.lt;omega
 ·rcases hk with hk|hk
  ·exact .inl (.inl hk)
  ·rcases gZ k hk with h1|h1
   ·exact .inl (.inr h1)
   ·exact .inr h1
end
def Ce(w:World)(b m:Nat)(ao aq:Option Addr)(es:List Qe)(os:List Int)(qs:Qs)(o:Int)(q:List Int)(R:Bool)(w':World):Prop:=
 Mod (eY b m ao aq es) w w'/\(R=true->fw (os++[o]) (qs++[q])/\∃ku nR iw kv es',LM w' b m ku nR iw kv (os++[o]) es' (h_ (qs++[q])) (total (qs++[q]))/\gE es'=qs++[q]/\∀k,eY b m ku iw es' k->eY b m ao aq es k\/w.heap.size<=k)
def Pg(w wr:World)(b m:Nat)(ao:Option Addr)(co:Nat)(aq:Option Addr)(cq:Nat)(os:List Int)(es:List Qe)(qs:Qs)(o:Int)(q:List Int)(i:Nat):Prop:=
 LM wr b m ao co aq cq os es (fun x=>if x∈q.take i then some (os.length:Int)else h_ qs x) (total qs+i)/\Mod (fun k=>k=m) w wr/\xS qs o (q.take i)
variable{w:World}{m i n:Nat}{os l:List Int}{es:List Qe}{qs:Qs}{a:Option Addr}
theorem add_any{b:Nat}{ao:Option Addr}{co:Nat}{aq:Option Addr}{cq:Nat}(h:LM w b m ao co aq cq os es (h_ qs) (total qs))(hG:fw os qs)(hq:gE es=qs)(h8:os.length<8)
 {a:Option Addr}{n c:Nat}{q:List Int}{o:Int}(hR:∀W,Mod (eY b m ao aq es) w W->Rd W a (iC q))(hN:Hid (q.length=n))(hf:∀p∈q,ic p)(ho:ic o)(ht:total qs+n<6000000000000):
 Calls prog 139 #[.pointer (some ⟨b,0,none⟩),.int .i64 o,.slice a n c] w fun e w'=>e=.returned (.bool (uN qs o q))/\Ce w b m ao aq es os qs o q (uN qs o q) w':=by
 have HL:=hd h;have HG:=hd hG;have HQ:=hd hq;have HR:=hd hR;have vB:=hd hf;obtain ⟨R,r_⟩:=Haa (uN qs o q);rw [r_.out];have lQ:Hid (R=false->Ce w b m ao aq es os qs o q R w):=hd (fun e=>⟨Mod.refl _ _,fun h=>by rw [e]at h;cases h⟩);clear h hG hq hR hf;by_cases h1:o< -1
 · obtain rfl:R=false:=by rw [<-r_.out];unfold uN;rw [aah (.inl h1)]
   clear HL HG HQ HR vB r_;go_enter func139,ntmps139;go_wp2_with fail;go_ret;exact ⟨rfl,lQ.out (by trivial)⟩
 have jY:decide (o< -1)=false:=by simpa using h1
 by_cases h2:o=-1/\0<n
 · obtain ⟨rfl,h3⟩:=h2;obtain rfl:R=false:=by rw [<-r_.out];unfold uN;rw [aah (.inr ⟨rfl,by rw [hN.out];exact h3⟩)]
   clear HL HG HQ HR vB r_ h1 jY;go_enter func139,ntmps139;go_wp2_with fail;go_ret;exact ⟨rfl,lQ.out (by trivial)⟩
 have KY:Hid (kR qs o [] q=R):=hd (by rw [<-r_.out];unfold uN;rw [aaf (by rw [hN.out];omega)]);obtain ⟨no,gM⟩:=Haa os.length;rw [gM.out]at h8;have HS:Hid (Pg w w b m ao co aq cq os es qs o q 0):=hd ⟨⟨HL.out.lb,HL.out.map.congr (fun x=>by rw [List.take_zero,aaf (aaF)]),HL.out.ap⟩,Mod.refl _ _,by rw [List.take_zero];exact xS.nil _ _⟩;have KZ:=hd h2;clear r_ h1 lQ h2;go_enter func139,ntmps139;go_upto_region 1 with fail;go_cut [11,12,13,14,15,16,17,18,19,20,21] (fun _ _ _ _ _ _ _ _ _ _ v21 wy=>v21=.bool false/\wy=w)
 case first=>
  by_cases e:o=-1
  · have h3:¬0<n:=fun h3=>KZ.out ⟨e,h3⟩
    obtain rfl:n=0:=by omega
    subst e;clear HL HG HQ HR vB KY KZ h3 HS gM;go_wp2_with fail;go_meet
    case rel=>exact ⟨by trivial,by trivial⟩
  · have e':(o==-1)=false:=by simpa using e
    clear HL HG HQ HR vB KY KZ HS gM e;go_wp2_with fail;go_meet
    case rel=>exact ⟨by trivial,by trivial⟩
 case rest=>
  obtain ⟨rfl,rfl⟩:=hcut;have K0:Hid (-1<=o):=hd (by have:=jY;simp at this;omega);clear KZ jY;go_wp2_with fail;go_loopg [8,9,10,24,25,26,27,28,29,30,31,32,33,34,35,36,37,38,39,40,41,42,43,44,45,46,47,48,49,50,51,52,53,54] n (fun k _ _ _ v24 _ _ _ _ _ _ _ _ _ _ _ _ _ _ _ _ _ _ _ _ _ _ _ _ _ _ _ _ _ _ wr=>∃i:Nat,i+k=n/\v24=.int .i64 (i:Int)/\Hid (Pg wc wr b m ao co aq cq os es qs o q i/\kR qs o (q.take i) (q.drop i)=R))
  case atStart=>exact ⟨0,by omega,by go_num,hd ⟨HS.out,by simpa using KY.out⟩⟩
  case round=>
   obtain ⟨i,dh,rfl,HX⟩:=hrel;clear HS KY;obtain ⟨⟨kL,K3,EB⟩,Ht⟩:=HX.out;have CW:Mod (eY b m ao aq es) wc wr:=K3.mono (fun k _ hk=> .inl hk);by_cases h0:gk=0
   · subst h0;have hi:i=n:=by omega
     subst hi;have jN:q.take i=q:=aap (by rw [hN.out];omega);obtain rfl:R=true:=by rw [<-Ht,abc (by rw [hN.out];omega)];rfl
     rw [jN]at kL EB;have Yh:-1<=o/\o<=9223372036854775807:=⟨K0.out,ho.2⟩;have Yi:=HG.out.app (by rw [gM.out];exact h8) Yh EB (fun p hp=>(vB.out p hp).2);have Yj:LM wr b m ao co aq cq os es (h_ (qs++[q])) (total (qs++[q])):=by
      rw [total_app,hN.out];refine ⟨kL.lb,kL.map.congr (fun y=> ?_),kL.ap⟩;rw [wtI_app HG.out EB,HG.out.n]
     have c0:=kL.lb.c0;obtain ⟨ku,nR,w4,Al,Hu,A1,iz⟩:=mX (T:=23) aaV Ck rfl kL.lb.ro (by rw [gM.out];unfold maxLen;omega) (by rw [gM.out];omega) [.int .i64 o] rfl (by simp [Value.oneCell']);obtain ⟨s1,s2,s3⟩:=Yj.OD A1 (v:=o) Hu iz;have z1:∃u,w4.cell? ⟨b,0,none⟩=some u:=⟨_,(A1.cell (p:=⟨b,0,none⟩) kL.lb.blt (kL.lb.bo)).trans c0⟩;have z2:w4.frozen? ⟨b,0,none⟩=false:=(A1.frozen (p:=⟨b,0,none⟩) kL.lb.blt (kL.lb.bo)).trans (kL.lb.VU 0);rw [gM.out]at c0 Al s1 s2;obtain ⟨w5,Yk⟩:=Haa (w4.setCell ⟨b,0,none⟩ (.slice ku (no+1) nR));rw [Yk.out]at s1 s2;replace Al:=hd Al;have fF:Below w5.heap.size w5 w5.drew:=(aak _ w5).drew;have K4:=s1.below fF;have K5:Mod (eY b m ao aq es) wc w5:=CW.trans s2 (fun _ h=> .inl h);have Yl:=(HR.out w5 K5).below fF;have jx:=FF (c:=c) Yl (n:=i) (by rw [oo,hN.out];omega) (tH _) (by omega);have j6:es.length=no:=by rw [<-gM.out,<-HG.out.n,<-HQ.out,xO]
     have d1:=s1.lb.c1;rw [j6]at d1;have hbl5:b<w5.heap.size:=s1.lb.blt
     have HP:Hid (∀w6 a1 c1,Row w6 3 1 a1 i c1 (iC q)->Below w5.drew.heap.size w5.drew w6->(∀k,ae a1=some k->w5.drew.heap.size<=k)->w6.cell? ⟨b,1,none⟩=some (.slice aq no cq)/\(w6.alloc (.cells #[.slice a1 i c1] 23)).cell? ⟨b,1,none⟩=some (.slice aq no cq)/\∃iw kv w7,(∀ty,(Builtin.append_ #[107,107] ty #[.slice aq no cq,.slice (some ⟨w6.heap.size,0,none⟩) 1 1]).run prog (w6.alloc (.cells #[.slice a1 i c1] 23))=.ok (.slice iw (no+1) kv) w7)/\(∃u,w7.cell? ⟨b,1,none⟩=some u)/\w7.frozen? ⟨b,1,none⟩=false/\Ce wc b m ao aq es os qs o q true (w7.setCell ⟨b,1,none⟩ (.slice iw (no+1) kv))):=hd (fun w6 a1 c1 r1 r2 r3=>by
      have s6:=K4.below r2;have KX:Qw w6 (a1,c1,q):=by unfold Qw;rw [hN.out];exact r1.ro
      have e1:=s6.lb.c1;rw [j6]at e1;obtain ⟨iw,kv,w7,mh,wW,jH,EC⟩:=mX (T:=107) underlying107 VT rfl s6.lb.rq (by rw [j6];unfold maxLen;omega) (by rw [j6];omega) [.slice a1 i c1] rfl (by simp [Value.oneCell']);have fQ:Mod (fun k=>ae aq=some k) w5.drew w7:=(Mod.aS _ r2).trans jH (fun _ h=> .inl h);have hsv:sC [((a1,c1,q):Qe)]=[.slice a1 i c1]:=by simp [sC,sV,hN.out]
      have Ph:=fun k (hk:ae a1=some k)=>KX.lt k hk
      have WW:∀k,ae aq=some k->k<w5.drew.heap.size:=fun k hk=>K4.lb.rq.lt k hk
      obtain ⟨t1,t2,t3⟩:=K4.D2 fQ (e':=(a1,c1,q)) (iw:=iw) (kv:=kv) (by rw [hsv];exact wW) (fun k hk=>by
       rcases EC k hk with h3|h3
       · exact .inl h3
       · exact .inr (aai r2.size h3)) (KX.mod jH (fun k hk e=>by have:=r3 k hk;have:=WW k e;omega)) (fun k hk=>⟨r3 k hk,fun e=>by
         rcases EC k e with h3|h3
         · have:=r3 k hk;have:=WW k h3;omega
         · have:=Ph k hk;omega⟩)
      rw [j6]at mh t1 t2;refine ⟨e1,((aA w6 _).cell (p:=⟨b,1,none⟩) s6.lb.blt).trans e1,iw,kv,w7,mh,⟨_,(jH.cell (p:=⟨b,1,none⟩) s6.lb.blt s6.lb.bq).trans e1⟩,(jH.frozen (p:=⟨b,1,none⟩) s6.lb.blt s6.lb.bq).trans (s6.lb.VU 1), ?_,fun _=>⟨Yi,ku,nR,iw,kv,es++[(a1,c1,q)],t1,by rw [qsOf_app,HQ.out];rfl,fun k hk=> ?_⟩⟩
      · refine (K5.after fF).trans t2 (fun k hk=> ?_);rcases s3 k hk with h3|h3
        · exact .inl h3
        · exact .inr (aai CW.size h3)
      · rcases t3 k hk with h3|h3
        · rcases s3 k h3 with h4|h4
          · exact .inl h4
          · exact .inr (aai CW.size h4)
        · exact .inr (aai K5.size h3))
     obtain ⟨u4,z1⟩:=z1;clear HX kL K3 EB Ht CW jN Yi Yj s1 s2 s3 K4 K5 Yl Hu A1 iz HL HG HQ HR vB dh j6 Yh;go_upto_region 12 with(first|(at_builtin;refine dZ rfl _ _ _ rfl _ _ _ _ rfl rfl Al.out ?_;clear Al));rw [Yk.out];go_region_law
      (first
        |(go_simp;refine jx.mono ?_;rintro e6 w6 ⟨a1,c1,rfl,r1,r2,r3⟩
          obtain ⟨p1,p2,iw,kv,w7,mh,⟨u7,p3⟩,p4,p5⟩:=HP.out w6 a1 c1 r1 r2 r3
          replace mh:=hd mh;replace p5:=hd p5
          clear r1 r2 r3)
        |(refine rN (by rfl) _ _ _ (by rfl) _ _ _ _ (by rfl) (by rfl) mh.out ?_;clear mh))
     all_goals go_wp2_with fail
     all_goals go_ret
     all_goals exact ⟨rfl,p5.out⟩
   · have af:i<n:=by omega
     have D9:i<q.length:=by rw [hN.out];exact af
     have yK:=HR.out wr CW;obtain ⟨g,o',rfl,cx⟩:=yK.int i D9;obtain ⟨x,hx⟩:=Haa (q.getD i 0);rw [hx.out]at cx;have Ym:ic x:=vB.out x (by rw [<-hx.out,aac,aad D9];exact aaG D9);have sJ:=Tz kL Ym;rw [addQ_drop D9,hx.out]at Ht;have lQ:Hid (R=false->Ce wc b m ao aq es os qs o q R wr):=hd (fun e=>⟨CW,fun h=>by rw [e]at h;cases h⟩)
     have sK:Hid (Ah qs o (q.take i) x=((if x∈q.take i then some (os.length:Int)else h_ qs x).isSome||decide (x<0)||decide (x=o))):=hd (by
      unfold Ah h_;by_cases e:x∈q.take i
      · simp [e]
      · simp [e])
     obtain ⟨tv,Hv⟩:=Haa ((if x∈q.take i then some (os.length:Int)else h_ qs x).getD 0);obtain ⟨tb,oW⟩:=Haa ((if x∈q.take i then some (os.length:Int)else h_ qs x).isSome);rw [Hv.out,oW.out]at sJ;rw [oW.out]at sK;have A4:=hd Ht;have A5:=hd kL;have wY:=hd EB;have Hw:=hd K3;clear Ht kL EB K3 CW HX yK h0
     cases tb with
     |true=>
      obtain rfl:R=false:=by rw [<-A4.out,sK.out];rfl
      clear A4 sK HL HG HQ HR vB A5 wY Hw Hv oW;go_wp2_with (first|(go_at_call 172;refine sJ.mono ?_;rintro e3 w3 ⟨rfl,rfl⟩));go_ret;exact ⟨rfl,lQ.out (by trivial)⟩
     |false=>
      by_cases j8:x<0
      · obtain rfl:R=false:=by rw [<-A4.out,sK.out,aah (by simp [j8])]
        clear A4 sK HL HG HQ HR vB A5 wY Hw Hv oW;go_wp2_with (first|(go_at_call 172;refine sJ.mono ?_;rintro e3 w3 ⟨rfl,rfl⟩));go_ret;exact ⟨rfl,lQ.out (by trivial)⟩
      · have hx0':decide (x<0)=false:=by simpa using j8
        by_cases Hx:x=o
        · obtain rfl:R=false:=by rw [<-A4.out,sK.out,aah (by simp [Hx])]
          subst Hx;clear A4 sK HL HG HQ HR vB A5 wY Hw Hv oW j8;go_wp2_with (first|(go_at_call 172;refine sJ.mono ?_;rintro e3 w3 ⟨rfl,rfl⟩));go_ret;exact ⟨rfl,lQ.out (by trivial)⟩
        · have hxo':(x==o)=false:=by simpa using Hx
          have Qo:Ah qs o (q.take i) x=false:=by rw [sK.out];simp [j8,Hx]
          have c0:=A5.out.lb.c0;have c2:=A5.out.lb.c2;rw [gM.out]at c0;have fF:Below wr.heap.size wr wr.drew:=(aak _ wr).drew;obtain ⟨w4,aJ,Qp,hA4⟩:=(A5.out.below fF).map.store (p:=x) (v:=(no:Int)) Ym ⟨by omega,by omega⟩ (by omega);rw [aaf (by rw [oW.out];simp)]at hA4
          have HE:Hid (Pg wc w4 b m ao co aq cq os es qs o q (i+1)/\kR qs o (q.take (i+1)) (q.drop (i+1))=R):=hd (by
           have sM:q.take (i+1)=q.take i++[x]:=by rw [<-hx.out,aaD D9,aac,aad D9];rfl
           refine ⟨⟨?_,((Hw.out.after fF).trans Qp (fun _ h=> .inl h)),by rw [sM];exact wY.out.push Qo⟩, ?_⟩
           · have:=(A5.out.below fF).turn Qp hA4;refine ⟨this.lb, ?_,this.ap⟩
             have h5:=this.map.congr (f':=fun y=>if y∈q.take (i+1)then some (os.length:Int)else h_ qs y) (fun y=>by
              rw [gM.out];by_cases e:y=x
              · rw [aah e,aah (by rw [sM,e];simp)]
              · rw [aaf e];by_cases e2:y∈q.take i
                · rw [aah e2,aah (by rw [sM];exact List.mem_append_left _ e2)]
                · rw [aaf e2,aaf (by rw [sM];simp [e,e2])])
             exact h5
           · have:=A4.out;rw [Qo]at this
             simpa using this)
          clear A4 sK HL HG HQ HR vB A5 wY Hw Hv oW j8 Hx Qo Qp hA4 lQ fF;go_upto_region 9 with(first|(go_at_call 172;refine sJ.mono ?_;rintro e3 w3 ⟨rfl,rfl⟩));go_region;all_goals go_wp2_with fail
          all_goals go_roundg (gk-1)
          all_goals first|exact ⟨i+1,by omega,by go_num,HE⟩|omega
structure CX(w:World)(a:Option Addr)(es:List Qe):Prop where
 row:Rd w a (sC es)
 qs:∀i,i<es.length->Rd w (bN es i).1 (iC (bN es i).2.2)
theorem CX.below{w':World}(h:CX w a es)(hb:Below w.heap.size w w'):CX w' a es:=⟨h.row.below hb,fun i hi=>(h.qs i hi).below hb⟩
theorem CX.at'(h:CX w a es)(i:Nat)(hi:i<es.length):∃g o,a=some ⟨g,o,none⟩/\w.cell? ⟨g,o+i,none⟩=some (.slice (bN es i).1 (bN es i).2.2.length (bN es i).2.1):=by
 obtain ⟨g,o,h1,h2⟩:=h.row i _ (OC es i hi);exact ⟨g,o,h1,h2⟩
theorem _root_.Go.Proofs.YthopnfbjiifhhaaGreatDoor.Rd.old{wr W:World}{xs:List Value}{S:Nat->Prop}(h:Rd w a xs)(hb:Below w.heap.size w wr)(hS:∀k,S k->w.heap.size<=k)(hm:Mod S wr W):Rd W a xs:=fun j u hj=>by
 obtain ⟨b,o,rfl,hc⟩:=h j u hj;have hl:=aaj w _ hc;have iK:b<w.heap.size:=hl;refine ⟨b,o,rfl, ?_⟩;rw [hm.cell (p:=⟨b,o+j,none⟩) (aam hl hb.size) (fun e=>by have:=hS b e;omega),hb.cell (p:=⟨b,o+j,none⟩) hl];exact hc
def zO(w:World)(os:List Int)(qs:Qs)(R:Bool)(e:Ending)(w':World):Prop:=
 Below w.heap.size w w'/\((R=false/\e=.returned (.tuple #[.pointer none,.int .i64 4]))\/(R=true/\∃b F,e=.returned (.tuple #[.pointer (some ⟨b,0,none⟩),.int .i64 0])/\Lk w' b F os qs/\∀k,F k->w.heap.size<=k))
def GF(w wr:World)(b m:Nat)(os:List Int)(qs:Qs)(i:Nat):Prop:=
 fw (os.take i) (qs.take i)/\Below w.heap.size w wr/\∃ao co aq cq es,LM wr b m ao co aq cq (os.take i) es (h_ (qs.take i)) (total (qs.take i))/\gE es=qs.take i/\∀k,eY b m ao aq es k->w.heap.size<=k
theorem total_take'(qs:Qs)(i:Nat):total (qs.take i)+(aW qs i).length<=total qs:=by
 induction qs generalizing i with
 |nil=>simp [total,aW]
 |cons q r ih=>
  cases i with
  |zero=>simp [total,aW]
  |succ i=>
   have:=ih i;simp [total,aW]at*
   omega
theorem take_oAt(h:i<os.length):os.take (i+1)=os.take i++[jo os i]:=by
 rw [aaD h];unfold jo;rw [aac,aad h];rfl
theorem take_qAt(h:i<qs.length):qs.take (i+1)=qs.take i++[aW qs i]:=by
 rw [aaD h];unfold aW;rw [aac,aad h];rfl
theorem NM{a1 a2:Option Addr}{c1 c2:Nat}{ea:List Qe}(Hu:Rd w a1 (iC os))(wW:CX w a2 ea)(iz:Hid (os.length=n))(EC:Hid (ea.length=n))(h8:n<=8)(jj:∀o∈os,ic o)(oZ:∀i,∀p∈aW (gE ea) i,ic p)(ht:total (gE ea)<6000000000000):
 Calls prog 117 #[.slice a1 n c1,.slice a2 n c2] w fun e w'=>zO w os (gE ea) (qN [] os (gE ea)) e w':=by
 obtain ⟨qs,vC⟩:=Haa (gE ea);have vh:Hid (∀i,aW qs i=(bN ea i).2.2):=hd (fun i=>by rw [<-vC.out,Cb]);have K6:Hid (qs.length=n):=hd (by rw [<-vC.out,xO,EC.out]);rw [vC.out]at ht oZ⊢;obtain ⟨R,hR⟩:=Haa (qN [] os qs);rw [hR.out];have ry:=hd Hu;have um:=hd wW;have uV:=hd jj;have Qq:=hd oZ;have fQ:(Instr.makeMap 238 none).run prog w=.ok (.map (some w.heap.size)) (w.alloc (.map #[] 0)):=rfl;have jY:decide (8<n)=false:=by simpa using h8
 have vf:((n:Int)!=(n:Int))=false:=by simp
 clear Hu wW jj oZ;go_enter func117,ntmps117;go_upto_region 6 with fail;obtain ⟨w1,aR⟩:=Haa ((w.alloc (.map #[] 0)).alloc (.cells #[.slice none 0 0,.slice none 0 0,.map (some w.heap.size)] 240))
 have HS:Hid (GF w w1 (w.heap.size+1) w.heap.size os qs 0):=hd (by
  have aH:=aA w (.map #[] 0);have aI:=aA (w.alloc (.map #[] 0)) (.cells #[.slice none 0 0,.slice none 0 0,.map (some w.heap.size)] 240);have Ai:=aae (w.alloc (.map #[] 0)) (.cells #[.slice none 0 0,.slice none 0 0,.map (some w.heap.size)] 240);have cD:(w.alloc (.map #[] 0)).heap.size=w.heap.size+1:=by simp
  rw [cD]at Ai;rw [aR.out]at Ai aI;have hfp:∀k,eY (w.heap.size+1) w.heap.size none none [] k->w.heap.size<=k:=fun k hk=>by
   rcases hk with hk|hk|hk|hk|⟨i,hi,hk⟩
   ·omega
   ·omega
   ·cases hk
   ·cases hk
   ·simp at hi
  refine ⟨fw.nil,aH.trans (aI.mono (by omega)),none,0,none,0,[],⟨⟨Ai,Row.nil,Row.nil,(fun i hi=>by simp at hi),(fun e=>by cases e),(fun e=>by cases e),(fun k hk=>by cases hk),(fun i hi=>by simp at hi),(fun i j hi=>by simp at hi)⟩, ?_,fun e=> ?_⟩,rfl,hfp⟩
  ·have:=(jV.new w).below (w':=w1) aI;exact this.congr (fun p=>rfl)
  ·rcases e with e|e|e|⟨i,hi,e⟩
   ·omega
   ·cases e
   ·cases e
   ·simp at hi)
 have cD:(w.alloc (.map #[] 0)).heap.size=w.heap.size+1:=by simp
 try simp only [cD]
 rw [aR.out];obtain ⟨b,hb⟩:=Haa (w.heap.size+1);obtain ⟨m,hm⟩:=Haa w.heap.size
 have ru:Hid (GF w w1 b m os qs 0):=hd (by
  have:=HS.out;rw [hb.out]at this;rw [<-hm.out]
  exact this)
 rw [hb.out];clear HS fQ cD aR;go_wp2_with fail;go_loopg [7,8,27,28,29,30,31,32,33,34,35,36,37,38,39,40] n (fun k _ _ v27 _ _ _ _ _ _ _ _ _ _ _ _ _ wr=>∃i:Nat,i+k=n/\v27=.int .i64 (i:Int)/\Hid (GF w wr b m os qs i/\qN (qs.take i) (os.drop i) (qs.drop i)=R))
 case atStart=>exact ⟨0,by omega,by go_num,hd ⟨ru.out,by simpa using hR.out⟩⟩
 case round=>
  obtain ⟨i,dh,rfl,HX⟩:=hrel;clear ru hR;obtain ⟨⟨Hy,qp,ao,co,aq,cq,es,kL,Hz,qm⟩,CY⟩:=HX.out;by_cases h0:gk=0
  ·subst h0;have hi:i=n:=by omega
   subst hi
   have HE:Hid (zO w os qs R (.returned (.tuple #[.pointer (some ⟨b,0,none⟩),.int .i64 0])) wr):=hd (by
    rw [layF_end (by rw [iz.out];omega)]at CY;have t1:os.take i=os:=aap (by rw [iz.out];omega);have t2:qs.take i=qs:=aap (by rw [K6.out];omega);rw [t1,t2]at Hy kL;rw [t2]at Hz
    exact ⟨qp,.inr ⟨CY.symm,b,eY b m ao aq es,rfl,⟨Hy,m,ao,co,aq,cq,es,kL,Hz,fun _ h=>h,kL.lt⟩,qm⟩⟩)
   clear HX Hy qp kL Hz qm CY dh ry um uV Qq K6 vh;go_wp2_with fail;go_ret2;exact HE.out
  ·have af:i<n:=by omega
   obtain ⟨g1,o1,rfl,e1⟩:=(ry.out.below qp).int i (by rw [iz.out];exact af);obtain ⟨g2,o2,rfl,e2⟩:=(um.out.below qp).at' i (by rw [EC.out];exact af);have Yn:os.getD i 0=jo os i:=by
    unfold jo;rw [aac,aac,aad (by rw [iz.out];exact af)];rfl
   rw [Yn]at e1;rw [layF_drop (by rw [iz.out];exact af) (by rw [iz.out,K6.out])]at CY;have Yo:=uV.out (jo os i) (NG (by rw [iz.out];exact af));have jM:∀W,Mod (eY b m ao aq es) wr W->Rd W (bN ea i).1 (iC (aW qs i)):=fun W hW=>by
    rw [vh.out i];exact (um.out.qs i (by rw [EC.out];exact af)).old qp qm hW
   obtain ⟨ln,AZ⟩:=Haa ((aW qs i).length);have htt:=total_take' qs i;have ky:(os.take i).length=i:=by rw [aa4,iz.out];omega
   have had:=add_any (c:=(bN ea i).2.1) kL Hy Hz (by rw [ky];omega) jM AZ (Qq.out i) Yo (by rw [<-AZ.out];omega);rw [<-vh.out i,AZ.out]at e2;obtain ⟨A,hA⟩:=Haa (uN (qs.take i) (jo os i) (aW qs i));rw [hA.out]at had CY;have K7:=hd (take_oAt (os:=os) (i:=i) (by rw [iz.out];exact af));have Qr:=hd (take_qAt (qs:=qs) (i:=i) (by rw [K6.out];exact af));obtain ⟨ov,Hr⟩:=Haa (jo os i);rw [Hr.out]at e1 had K7;have kW:Hid (∀w',Ce wr b m ao aq es (os.take i) (qs.take i) ov (aW qs i) A w'->Below w.heap.size w w'):=hd (fun w' h=>qp.trans (h.1.below qp.size (fun k _ hk=>qm k hk)));have Qt:=hd qm;have Qu:=hd qp;have Km:=hd CY;clear HX Hy qp kL Hz qm CY ry um uV Qq jM htt ky Yo Yn h0
   cases A with
   |false=>
    obtain rfl:R=false:=by rw [<-Km.out];rfl
    have HE:Hid (∀w',Ce wr b m ao aq es (os.take i) (qs.take i) ov (aW qs i) false w'->zO w os qs false (.returned (.tuple #[.pointer none,.int .i64 4])) w'):=hd (fun w' h=>⟨kW.out w' h,.inl ⟨rfl,rfl⟩⟩);clear Km kW Qt Qu K7 Qr;go_wp2_with (first|(go_at_call 139;refine had.mono ?_;rintro e3 w3 ⟨rfl,Qv⟩));go_ret2;exact HE.out _ Qv
   |true=>
    have HE:Hid (∀w',Ce wr b m ao aq es (os.take i) (qs.take i) ov (aW qs i) true w'->GF w w' b m os qs (i+1)/\qN (qs.take (i+1)) (os.drop (i+1)) (qs.drop (i+1))=R):=hd (fun w' h=>by
     have hb:=kW.out w' h;obtain ⟨h1,h2⟩:=h;obtain ⟨h3,ku,nR,iw,kv,es',h4,h5,h6⟩:=h2 rfl;refine ⟨?_,Km.out⟩;unfold GF;rw [K7.out,Qr.out];refine ⟨h3,hb,ku,nR,iw,kv,es',h4,h5,fun k hk=> ?_⟩;rcases h6 k hk with h7|h7
     ·exact Qt.out k h7
     ·exact aai Qu.out.size h7)
    clear Km kW Qt Qu K7 Qr;go_wp2_with (first|(go_at_call 139;refine had.mono ?_;rintro e3 w3 ⟨rfl,Qv⟩));go_roundg (gk-1)
    case rel=>exact ⟨i+1,by omega,by go_num,hd (HE.out _ Qv)⟩
    case measure=>omega
theorem mul64_any(n:Nat)(h:n<=8)(w:World):Calls prog 145 #[.int .u64 1,.int .u64 (n:Int)] w fun e w'=>e=.returned (.tuple #[.int .u64 0,.int .u64 (n:Int)])/\w'=w:=by
 rcases (by omega:n=0\/n=1\/n=2\/n=3\/n=4\/n=5\/n=6\/n=7\/n=8)with rfl|rfl|rfl|rfl|rfl|rfl|rfl|rfl|rfl;all_goals clear h
 all_goals go_enter func145,ntmps145
 all_goals go_wp2
 all_goals go_ret2
 all_goals exact ⟨rfl,rfl⟩
theorem mul_any(n:Nat)(h:n<=8)(w:World):Calls prog 122 #[.int .u64 1,.int .u64 (n:Int)] w fun e w'=>e=.returned (.tuple #[.int .u64 0,.int .u64 (n:Int)])/\w'=w:=by
 have hm:=mul64_any n h w;go_enter func122,ntmps122;go_wp2_with (first|(go_at_call 145;refine hm.mono ?_;rintro e3 w3 ⟨rfl,rfl⟩));go_ret2;exact ⟨rfl,rfl⟩
theorem TD{G:Nat}(h:Row w 3 1 (some ⟨G,0,none⟩) n n (iC l))(o wv D6 wA D7:Nat)(g2 o2:Nat)(xs:List Int)(hx:xs.length=Nat.min wA wv)(hs:Rd w (some ⟨g2,o2,none⟩) (iC xs))(gU:o+xs.length<=n):
 ∃w',(∀ty,(Builtin.copy_ #[23,23] ty #[.slice (some ⟨G,o,none⟩) wv D6,.slice (some ⟨g2,o2,none⟩) wA D7]).run prog w=.ok (.int .i64 (xs.length:Int)) w')/\Row w' 3 1 (some ⟨G,0,none⟩) n n (iC (l.take o++xs++l.drop (o+xs.length)))/\Mod (fun k=>k=G) w w':=by
 have Ay:=h.len;rw [oo]at Ay;obtain ⟨h1,h2,h3,⟨h4,_⟩|⟨g',cur,h4,h5,h6,h7⟩⟩:=h
 ·cases h4
 ·cases h4
  rw [Nat.mul_one]at h6 h7
  have hc:=fun ty=>MB (P:=prog) w 23 23 ty 3 1 G o wv D6 ⟨g2,o2,none⟩ wA D7 cur 3 (iC xs) aaV (by kernel_rfl) h5 (by rw [oo,hx]) (fun j v hj=>by
   obtain ⟨b',o',e1,e2⟩:=hs j v hj
   cases e1
   rw [kO]
   exact e2) (by rw [oo];omega) (tH _)
  rw [<-hx]at hc;refine ⟨_,hc, ?_,(Mod.refl (fun k=>k=G) w).setRow (.inl rfl) _⟩;have Yp:(iC xs).length=xs.length:=by rw [oo];omega
  have ho:(cur.toList.take o).length=o:=by rw [aa4,Array.length_toList];omega
  refine ⟨by rw [oo,aal,aal,aa4,List.length_drop];omega,aag _,h3,.inr ⟨G,_,rfl,setRow_heap _ _ _ _ _ _ h5, ?_, ?_⟩⟩
  ·simp only [List.size_toArray,List.length_append,List.length_drop,Array.length_toList,Yp,ho];omega
  ·rw [Nat.mul_one];show(cur.toList.take o++iC xs++cur.toList.drop (o+(iC xs).length)).take n=_;rw [xR,xR,<-F5,<-JJ,<-h7,Yp,List.take_take,List.drop_take,aaW (by omega:o<=n),List.take_append,aap (by rw [aal];omega)];congr 2;rw [aal];omega
theorem rep_join{k:Nat}(hk:l.take k=List.replicate k (-1)):(l.take k++List.replicate m (-1)++l.drop (k+m)).take (k+m)=List.replicate (k+m) (-1):=by
 rw [hk,List.replicate_append_replicate,aaS (by simp),aap (by simp)]
theorem repeat_row{gx:Nat}(hx:w.cell? ⟨gx,0,none⟩=some (.int .i64 (-1)))(h8:n<=8):
 Calls prog 94 #[.slice (some ⟨gx,0,none⟩) 1 1,.int .i64 (n:Int)] w fun e w'=>∃a c,e=.returned (.slice a n c)/\Row w' 3 1 a n c (iC (List.replicate n (-1)))/\(∀k,ae a=some k->w.heap.size<=k)/\Below w.heap.size w w':=by
 have Qx:=mul_any n h8 w;have iJ:=tF 23 3 _ 1 8 aaV Ck n (by omega) (by unfold maxLen;omega) w;obtain ⟨w1,aR⟩:=Haa (w.alloc (.cells (madeCells (Value.int .i64 0).cells (n*1)) 3));rw [aR.out]at iJ;have dM:Below w.heap.size w w1:=by rw [<-aR.out];exact aA w _
 have hh:=aae w (.cells (madeCells (Value.int .i64 0).cells (n*1)) 3);rw [aR.out]at hh;have ia:(madeCells (Value.int .i64 0).cells (n*1)).size=n*1:=by simp [madeCells]
 have bI:Row w1 3 1 (some ⟨w.heap.size,0,none⟩) n n (iC (List.replicate n 0)):=by
  have hr:=mZ (size:=1) (n:=n) hh ia (by unfold maxLen;omega);have e:(madeCells (Value.int .i64 0).cells (n*1)).toList=iC (List.replicate n 0):=by
   apply aaT;intro i;unfold madeCells;by_cases h:i<n
   ·simp [iC,Value.cells,h,Nat.mod_one]
   ·simp [iC,Value.cells,h,Nat.mod_one]
  rwa [e]at hr
 have PQ:gx<w.heap.size:=aaj w _ hx;have jJ:Rd w1 (some ⟨gx,0,none⟩) (iC [-1]):=fun j u hj=>by
  have:j=0:=by
   rcases j with _|j
   ·rfl
   ·simp [iC]at hj
  subst this;simp [iC]at hj;subst hj;exact ⟨gx,0,rfl,(dM.cell (p:=⟨gx,0,none⟩) PQ).trans hx⟩
 obtain ⟨G,hG⟩:=Haa w.heap.size;rw [hG.out]at iJ bI;by_cases h0:n=0
 ·subst h0;have jx:=fun ty=>Mx (P:=prog) w1 23 23 ty 3 1 (some ⟨G,0,none⟩) (some ⟨gx,0,none⟩) 0 0 1 1 aaV (by kernel_rfl) (by rfl)
  have jx:∀ty,(Builtin.copy_ #[23,23] ty #[.slice (some ⟨G,0,none⟩) 0 0,.slice (some ⟨gx,0,none⟩) 1 1]).run prog w1=.ok (.int .i64 0) w1:=jx;have iJ:(Instr.makeSlice 23 (.int .i64 0) (.int .i64 0)).run prog w=.ok (.slice (some ⟨G,0,none⟩) 0 0) w1:=iJ;have HE:=hd dM;have vD:Hid (Row w1 3 1 (some ⟨G,0,none⟩) 0 0 (iC (List.replicate 0 (-1)))):=hd bI;clear bI jJ ia hh dM aR;go_enter func94,ntmps94;go_wp2_with (first|(go_at_call 122;refine Qx.mono ?_;rintro e3 w3 ⟨rfl,rfl⟩));go_loopg [8,34,35,36,37,38,39,40,41,42,43,44,45,46] 0 (fun _ v8 _ _ _ _ _ _ _ _ _ _ _ _ _ wr=>v8=.int .i64 0/\wr=w1)
  case atStart=>exact ⟨rfl,rfl⟩
  case round=>
   obtain ⟨rfl,rfl⟩:=hrel;go_wp2_with fail;go_ret;exact ⟨_,_,rfl,vD.out,fun k hk=>by cases hk;rw [<-hG.out];exact aag _,HE.out⟩
 ·obtain ⟨w2,jx,j9,cO⟩:=TD bI 0 n n 1 1 gx 0 [-1] (show[(-1:Int)].length=Nat.min 1 n from(aaW (show 1<=n by omega)).symm) jJ (by simp;omega);have jx:∀ty,(Builtin.copy_ #[23,23] ty #[.slice (some ⟨G,0,none⟩) n n,.slice (some ⟨gx,0,none⟩) 1 1]).run prog w1=.ok (.int .i64 1) w2:=jx;have bY:Hid (Below w.heap.size w w2):=hd (dM.trans (cO.below dM.size (fun k _ e=>by rw [e,hG.out];exact aag _)));have um:Hid (∃l,Row w2 3 1 (some ⟨G,0,none⟩) n n (iC l)/\l.take 1=List.replicate 1 (-1)):=hd ⟨_,j9,by simp⟩;clear bI jJ ia hh dM aR j9 cO;go_enter func94,ntmps94;go_wp2_with (first|(go_at_call 122;refine Qx.mono ?_;rintro e3 w3 ⟨rfl,rfl⟩));go_loopg [8,34,35,36,37,38,39,40,41,42,43,44,45,46] n (fun j v8 _ _ _ _ _ _ _ _ _ _ _ _ _ wr=>∃k:Nat,n<=k+j/\k<=n/\0<k/\v8=.int .i64 (k:Int)/\Hid (Below w3.heap.size w3 wr/\∃l,Row wr 3 1 (some ⟨G,0,none⟩) n n (iC l)/\l.take k=List.replicate k (-1)))
  case atStart=>exact ⟨1,by omega,by omega,by omega,by go_num,hd ⟨bY.out,um.out⟩⟩
  case round=>
   obtain ⟨k,hkj,vl,Hl,rfl,HX⟩:=hrel;obtain ⟨qp,l,yK,A6⟩:=HX.out;clear bY um jx iJ Qx;by_cases af:k<n
   ·have fF:Below wr.heap.size wr wr.drew:=(aak _ wr).drew;have hM0:Nat.min k (n-k)<=n-k:=Nat.min_le_right _ _;have A1:Nat.min k (n-k)<=k:=Nat.min_le_left _ _;have jH:0<Nat.min k (n-k):=by rw [Nat.lt_min];omega
    obtain ⟨M,hM⟩:=Haa (Nat.min k (n-k));rw [hM.out]at hM0 A1 jH;have Kj:Rd wr.drew (some ⟨G,0,none⟩) (iC (List.replicate M (-1))):=by
     have h1:=(yK.below fF).rd;have e:List.replicate M (-1:Int)=l.take M:=by
      have:(l.take k).take M=(List.replicate k (-1:Int)).take M:=by rw [A6]
      rw [List.take_take,aaW A1,abH,aaW A1]at this;exact this.symm
     rw [e,<-F5];intro j u hj;rw [aaO]at hj;split at hj
     ·exact h1 j u hj
     ·cases hj
    obtain ⟨w4,jx,yL,p_⟩:=TD (yK.below fF) k (n-k) (n-k) k n G 0 (List.replicate M (-1)) (by rw [aaM];exact hM.out.symm) Kj (by rw [aaM];omega);rw [aaM]at jx yL;have Aw:¬n=k:=by omega
    have HE:Hid (Below w3.heap.size w3 w4/\∃l,Row w4 3 1 (some ⟨G,0,none⟩) n n (iC l)/\l.take (k+M)=List.replicate (k+M) (-1)):=hd (by
     have b1:=qp.trans (fF.mono qp.size)
     exact ⟨b1.trans (p_.below b1.size (fun j _ e=>by rw [e,<-hG.out];exact aag _)),_,yL,rep_join A6⟩)
    clear HX qp yK A6 yL p_ Kj fF;go_upto_region 9 with fail;go_region;all_goals go_wp2_with fail
    all_goals go_roundg (n-(k+M))
    all_goals first|exact ⟨k+M,by omega,by omega,by omega,by go_num,HE⟩|omega
   ·obtain rfl:k=n:=by omega
    have HE:Hid (Row wr 3 1 (some ⟨G,0,none⟩) k k (iC (List.replicate k (-1)))/\(∀j,ae (some (⟨G,0,none⟩:Addr))=some j->w3.heap.size<=j)/\Below w3.heap.size w3 wr):=hd (by
     refine ⟨?_,fun j hj=>by cases hj;rw [<-hG.out];exact aag _,qp⟩;have hl:=yK.len;rw [oo]at hl;rw [<-A6,aap (by omega)]
     exact yK)
    clear HX qp yK A6 af;go_wp2_with fail;go_ret;exact ⟨_,_,rfl,HE.out⟩
end Go.Proofs.YthopnfbjiifhhaaGreatDoor.aV
