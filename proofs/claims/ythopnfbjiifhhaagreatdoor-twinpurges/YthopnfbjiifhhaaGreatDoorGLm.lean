/- A lane, plainly: how it stands, and what each call makes of it. -/
import Derived.Test.YthopnfbjiifhhaaGreatDoorGXLW1
set_option maxHeartbeats 2000000
set_option maxRecDepth 100000
namespace Go.Proofs.YthopnfbjiifhhaaGreatDoor.aL
open Go.Proofs.Tryz
structure LS where
 room:Nat
 vs:List Int
 ws:List (Int×Int)
 tk:Int
 dr:Int
def OA(n:Int):Int:=if 65535<=n then 65535 else n+1
def qL:List (Int×Int)->Int->Int
 |[],_=>-1
 |w::ws,p=>if w.1=p then 0 else if qL ws p<0 then-1 else qL ws p+1
variable{ws:List (Int×Int)}{p:Int}{i cur:Nat}{s:LS}{ss:List LS}
theorem idxL_none(h:∀j,j<ws.length->(ws.getD j (0,0)).1≠p):qL ws p=-1:=by
 induction ws with
 |nil=>rfl
 |cons w ws ih=>
  unfold qL;rw [aaf (by simpa using h 0 (by simp)),ih (fun j hj=>by simpa using h (j+1) (by simp;omega))];rfl
theorem idxL_some(hi:i<ws.length)(h:(ws.getD i (0,0)).1=p)(h0:∀j,j<i->(ws.getD j (0,0)).1≠p):qL ws p=i:=by
 induction ws generalizing i with
 |nil=>simp at hi
 |cons w ws ih=>
  unfold qL
  cases i with
  |zero=>rw [aah (by simpa using h)];rfl
  |succ i=>
   have:=ih (i:=i) (by simpa using hi) (by simpa using h) (fun j hj=>by simpa using h0 (j+1) (by omega));rw [aaf (by simpa using h0 0 (by omega)),this,aaf (by omega)];omega
theorem idxL_cases(ws:List (Int×Int))(p:Int):(qL ws p=-1/\∀w∈ws,w.1≠p)\/∃i:Nat,qL ws p=i/\i<ws.length:=by
 induction ws with
 |nil=>exact .inl ⟨rfl,by simp⟩
 |cons w ws ih=>
  unfold qL;by_cases h:w.1=p
  ·rw [aah h];exact .inr ⟨0,rfl,by simp⟩
  ·rw [aaf h];rcases ih with⟨h1,h2⟩|⟨i,h1,h2⟩
   ·refine .inl ⟨by rw [h1];rfl,fun x hx=> ?_⟩;rcases List.mem_cons.mp hx with rfl|hx
    ·exact h
    ·exact h2 x hx
   ·refine .inr ⟨i+1,by rw [h1,aaf (by omega)];omega,by simp;omega⟩
def ic(x:Int):Prop:=-9223372036854775808<=x/\x<=9223372036854775807
def xW(room:Int)(vs:List Int)(ws:List (Int×Int))(tk dr:Int):Prop:=
 (vs.length:Int)<=room/\(ws.length=0\/room<=(vs.length:Int))/\(ws.map (·.1)).Nodup/\(0<=tk/\tk<=65535)/\(0<=dr/\dr<=65535)
structure Good(s:LS):Prop where
 r1:1<=s.room
 r2:s.room<=64
 may:xW s.room s.vs s.ws s.tk s.dr
 fit:∀w∈s.ws,ic w.1
theorem Good.len(h:Good s):s.vs.length<=s.room:=by have:=h.may.1;omega
def Gl(s:LS):(Int×(Int×Int)×Bool×Int)×LS:=
 match s.vs,s.ws with
 |[],_=>((0,(0,0),false,21),s)
 |v::r,[]=>((v,(0,0),false,0),{s with vs:=r,tk:=OA s.tk})
 |v::r,w::q=>((v,w,true,0),{s with vs:=r++[w.2],ws:=q,tk:=OA s.tk})
def kH(s:LS)(p:Int):Bool×LS:=if 0<=qL s.ws p then(true,{s with ws:=s.ws.eraseIdx (qL s.ws p).toNat})else(false,s)
def tR(s:LS):LS:={s with ws:=[]}
theorem Good.leave(h:Good s)(p:Int):Good (kH s p).2:=by
 unfold kH;split
 ·obtain ⟨h1,h2,h3,h4,h5⟩:=h.may;refine ⟨h.r1,h.r2,⟨h1, ?_, ?_,h4,h5⟩,fun x hx=>h.fit x (List.mem_of_mem_eraseIdx hx)⟩
  ·rcases h2 with h2|h2
   ·exact .inl (by have:=aaN h2;simp [this])
   ·exact .inr h2
  ·exact List.Nodup.sublist ((List.eraseIdx_sublist _ _).map _) h3
 ·exact h
theorem Good.over(h:Good s):Good (tR s):=by
 obtain ⟨h1,h2,h3,h4,h5⟩:=h.may;exact ⟨h.r1,h.r2,⟨h1,.inl rfl,by simp [tR],h4,h5⟩,by simp [tR]⟩
instance:Inhabited LS:=⟨⟨0,[],[],0,0⟩⟩
def L0:LS:=⟨0,[],[],0,0⟩
def dL(ss:List LS)(i:Nat):LS:=ss.getD i L0
theorem DN(h:i<ss.length):dL ss i∈ss:=by
 unfold dL;rw [aac,aad h];exact aaG h
theorem lnOf_set(ss:List LS)(i j:Nat)(s:LS)(h:i<ss.length):dL (ss.set i s) j=if j=i then s else dL ss j:=by
 unfold dL;rw [aac,aac,aaP];by_cases e:i=j
 ·subst e;simp [h]
 ·rw [aaf e,aaf (fun h=>e h.symm)]
structure nj(ss:List LS)(cur:Nat):Prop where
 n1:1<=ss.length
 n2:ss.length<=9
 cu:cur<ss.length
 each:∀s∈ss,Good s
theorem nj.at(h:nj ss cur)(hi:i<ss.length):Good (dL ss i):=h.each _ (DN hi)
theorem nj.map(h:nj ss cur)(f:LS->LS)(hf:∀s,Good s->Good (f s)):nj (ss.map f) cur:=
 ⟨by simpa using h.n1,by simpa using h.n2,by simpa using h.cu,fun x hx=>by
  obtain ⟨s,hs,rfl⟩:=List.mem_map.mp hx
  exact hf s (h.each s hs)⟩
def rU(ss:List LS)(p:Int):Bool×List LS:=(ss.any (fun s=>(kH s p).1),ss.map (fun s=>(kH s p).2))
def jf(ss:List LS):List (Int×Int)×List LS:=(ss.flatMap (·.ws),ss.map tR)
theorem nj.leave(h:nj ss cur)(p:Int):nj (rU ss p).2 cur:=h.map _ (fun _ hs=>hs.leave p)
theorem nj.over(h:nj ss cur):nj (jf ss).2 cur:=h.map _ (fun _ hs=>hs.over)
def ny(f:LS->LS)(i:Nat)(ss:List LS):List LS:=(ss.take i).map f++ss.drop i
theorem Ji(f:LS->LS)(i:Nat)(ss:List LS):(ny f i ss).length=ss.length:=by simp [ny];omega
theorem S7(f:LS->LS)(ss:List LS):ny f 0 ss=ss:=by simp [ny]
theorem Tv(f:LS->LS)(h:ss.length<=i):ny f i ss=ss.map f:=by simp [ny,List.take_of_length_le h,List.drop_of_length_le h]
theorem Jw(f:LS->LS)(h:i<ss.length):dL (ny f i ss) i=dL ss i:=by
 unfold dL ny;rw [aac,aac,aan (by simp;omega)];simp;rw [show i-min i ss.length=0 by omega,aa8]
theorem Tw(f:LS->LS)(h:i<ss.length):(ny f i ss).set i (f (dL ss i))=ny f (i+1) ss:=by
 unfold dL ny;rw [aa6 _ _ (by simp;omega),aaD h,abd,aaQ];have e:i-(List.map f (List.take i ss)).length=0:=by simp;omega
 rw [e,aa2 h,aac,aad h];rfl
open Go.RowKit
def iC(l:List Int):List Value:=l.map (.int .i64 ·)
def wP(x:Int×Int):List Value:=[.int .i64 x.1,.int .i64 x.2]
def wC(l:List (Int×Int)):List Value:=l.flatMap wP
theorem oo(l:List Int):(iC l).length=l.length*1:=by simp [iC]
theorem tI(l:List (Int×Int)):(wC l).length=l.length*2:=by
 induction l with
 |nil=>rfl
 |cons x r ih=>simp only [wC,List.flatMap_cons,List.length_append,List.length_cons]at*;rw [ih,show(wP x).length=2 from rfl];omega
theorem xR(l m:List Int):iC (l++m)=iC l++iC m:=by simp [iC]
theorem Ca(l m:List (Int×Int)):wC (l++m)=wC l++wC m:=by simp [wC]
theorem rW(l:List Int)(i:Nat)(h:i<l.length):(iC l)[i]?=some (.int .i64 (l.getD i 0)):=by
 simp [iC,List.getD_eq_getElem?_getD,List.getElem?_eq_getElem h]
theorem v_:∀(l:List (Int×Int)) (i:Nat),i<l.length->(wC l)[i*2]?=some (.int .i64 (l.getD i (0,0)).1)/\(wC l)[i*2+1]?=some (.int .i64 (l.getD i (0,0)).2)
 |[],i,h=>absurd h (aao i)
 |t::ts,0,_=>⟨rfl,rfl⟩
 |t::ts,i+1,h=>by
  have ih:=v_ ts i (by simpa using h);simp only [wC,List.flatMap_cons,List.getD_cons_succ]at*
  rw [aan (by rw [show(wP t).length=2 from rfl];omega),aan (by rw [show(wP t).length=2 from rfl];omega),show(wP t).length=2 from rfl,show(i+1)*2-2=i*2 by omega,show(i+1)*2+1-2=i*2+1 by omega];exact ih
theorem tH(l:List Int):∀u∈iC l,u.oneCell'=true:=by
 intro u hu;obtain ⟨x,_,rfl⟩:=List.mem_map.mp hu;rfl
theorem JX(l:List (Int×Int)):∀u∈wC l,u.oneCell'=true:=by
 intro u hu;simp only [wC,List.mem_flatMap,wP]at hu;obtain ⟨x,_,hx⟩:=hu;simp only [List.mem_cons,List.not_mem_nil,or_false]at hx;rcases hx with rfl|rfl<;>rfl
theorem JJ(l:List Int)(k:Nat):(iC l).drop (k*1)=iC (l.drop k):=by simp [iC]
theorem F5(l:List Int)(k:Nat):(iC l).take (k*1)=iC (l.take k):=by simp [iC,List.map_take]
theorem UM(l:List (Int×Int))(k:Nat):(wC l).drop (k*2)=wC (l.drop k):=by
 induction k generalizing l with
 |zero=>simp
 |succ k ih=>
  cases l with
  |nil=>simp [wC]
  |cons x r=>
   rw [List.drop_succ_cons,<-ih];simp only [wC,List.flatMap_cons];rw [show(k+1)*2=(wP x).length+k*2 by rw [show(wP x).length=2 from rfl];omega,<-List.drop_drop,List.drop_left]
theorem NF(l:List (Int×Int))(k:Nat):(wC l).take (k*2)=wC (l.take k):=by
 induction k generalizing l with
 |zero=>simp [wC]
 |succ k ih=>
  cases l with
  |nil=>simp [wC]
  |cons x r=>
   rw [List.take_succ_cons];simp only [wC,List.flatMap_cons]at*
   rw [<-ih,show(k+1)*2=(wP x).length+k*2 by rw [show(wP x).length=2 from rfl];omega,List.take_length_add_append]
theorem erase_eq{α:Type}(l:List α)(i:Nat):l.take i++l.drop (i+1)=l.eraseIdx i:=(List.eraseIdx_eq_take_drop_succ l i).symm
def fp(b:Nat)(a1 a2:Option Addr)(k:Nat):Prop:=k=b\/ae a1=some k\/ae a2=some k
structure jv(w:World)(T:TypeId)(b:Nat)(s:LS)(a1:Option Addr)(c1:Nat)(a2:Option Addr)(c2:Nat):Prop where
 obj:w.heap[b]?=some (.cells #[.int .i64 s.room,.slice a1 s.vs.length c1,.slice a2 s.ws.length c2,.int .i64 s.tk,.int .i64 s.dr] T (0,0))
 Ag:Row w 2 1 a1 s.vs.length c1 (iC s.vs)
 uZ:Row w 187 2 a2 s.ws.length c2 (wC s.ws)
 f1:∀k,ae a1=some k->k≠b
 f2:∀k,ae a2=some k->k≠b/\ae a1≠some k
section
variable{w w':World} {T:TypeId} {b:Nat} {s:LS} {a1 a2:Option Addr} {c1 c2:Nat}
theorem jv.lt(h:jv w T b s a1 c1 a2 c2):∀k,fp b a1 a2 k->k<w.heap.size:=fun k hk=>by
 rcases hk with rfl|hk|hk
 ·exact (aab.1 h.obj).1
 ·exact h.Ag.lt k hk
 ·exact h.uZ.lt k hk
theorem jv.blt(h:jv w T b s a1 c1 a2 c2):b<w.heap.size:=h.lt b (.inl rfl)
theorem jv.kept(h:jv w T b s a1 c1 a2 c2)(hk:∀k,fp b a1 a2 k->w'.heap[k]?=w.heap[k]?):jv w' T b s a1 c1 a2 c2:=
 ⟨by rw [hk b (.inl rfl)];exact h.obj,h.Ag.kept fun k jk=>hk k (.inr (.inl jk)),h.uZ.kept fun k jk=>hk k (.inr (.inr jk)),h.f1,h.f2⟩
theorem jv.below(h:jv w T b s a1 c1 a2 c2)(hb:Below w.heap.size w w'):jv w' T b s a1 c1 a2 c2:=h.kept fun k hk=>hb.block k (h.lt k hk)
theorem jv.mod{S:Nat->Prop}(h:jv w T b s a1 c1 a2 c2)(hm:Mod S w w')(hn:∀k,fp b a1 a2 k->¬S k):jv w' T b s a1 c1 a2 c2:=h.kept fun k hk=>hm.block k (h.lt k hk) (hn k hk)
theorem jv.cells(h:jv w T b s a1 c1 a2 c2):w.cell? ⟨b,0,none⟩=some (.int .i64 s.room)/\w.cell? ⟨b,1,none⟩=some (.slice a1 s.vs.length c1)/\w.cell? ⟨b,2,none⟩=some (.slice a2 s.ws.length c2)/\w.cell? ⟨b,3,none⟩=some (.int .i64 s.tk)/\w.cell? ⟨b,4,none⟩=some (.int .i64 s.dr):=by
 refine ⟨?_, ?_, ?_, ?_, ?_⟩<;>(rw [aaa _ _ _ _ _ _ h.obj];rfl)
theorem jv.free(h:jv w T b s a1 c1 a2 c2)(i:Nat):w.frozen? ⟨b,i,none⟩=false:=by simp [World.frozen?,h.obj]
theorem aU{w:World}{b i:Nat}{cs:Array Value}{t:TypeId}{fr:Nat×Nat}(h:w.heap[b]?=some (.cells cs t fr))(u:Value):(w.setCell ⟨b,i,none⟩ u).heap[b]?=some (.cells (cs.setIfInBounds i u) t fr):=by
 simp [World.setCell,Array.getElem?_modify,h]
theorem jv.WN(h:jv w T b s a1 c1 a2 c2)(hm:Mod (fun k=>ae a2=some k) w w'){u_:Option Addr}{Ev:List (Int×Int)}{n sD:Nat}(hR:Row w' 187 2 u_ n sD (wC Ev))(hl:n=Ev.length)(hn:∀k,ae u_=some k->ae a2=some k\/w.heap.size<=k):
 jv (w'.setCell ⟨b,2,none⟩ (.slice u_ n sD)) T b {s with ws:=Ev} a1 c1 u_ sD:=by
 subst hl;have af:=h.lt;have eW:w'.heap[b]?=w.heap[b]?:=hm.block b h.blt (fun e=>(h.f2 b e).1 rfl);have jk:∀k,k≠b->(w'.setCell ⟨b,2,none⟩ (.slice u_ Ev.length sD)).heap[k]?=w'.heap[k]?:=fun k hk=>aay _ _ _ _ hk
 have n1:∀k,ae u_=some k->k≠b:=fun k hk=>by
  rcases hn k hk with h1|h1
  ·exact (h.f2 k h1).1
  ·have:=h.blt;omega
 have n2:∀k,ae u_=some k->ae a1≠some k:=fun k hk e=>by
  rcases hn k hk with h1|h1
  ·exact (h.f2 k h1).2 e
  ·have:=af k (.inr (.inl e));omega
 refine ⟨?_,(h.Ag.mod hm fun k hk e=>(h.f2 k e).2 hk).kept fun k hk=>jk k (h.f1 k hk),hR.kept fun k hk=>jk k (n1 k hk),h.f1,fun k hk=>⟨n1 k hk,n2 k hk⟩⟩;rw [aU (eW.trans h.obj)];rfl
end
def Ln(w:World)(T:TypeId)(b:Nat)(F:Nat->Prop)(s:LS):Prop:=∃a1 c1 a2 c2,jv w T b s a1 c1 a2 c2/\(∀k,fp b a1 a2 k->F k)/\∀k,F k->k<w.heap.size
variable{w w':World}{T e:TypeId}{b size cap g n i pb:Nat}{F:Nat->Prop}{s:LS}{P:Program}{a:Option Addr}{ws:List (Int×Int)}{xs:List Value}{p:Int}
theorem Ln.mod{S:Nat->Prop}(h:Ln w T b F s)(hm:Mod S w w')(hn:∀k,F k->¬S k):Ln w' T b F s:=by
 obtain ⟨a1,c1,a2,c2,h1,h2,h3⟩:=h;exact ⟨a1,c1,a2,c2,h1.mod hm fun k hk=>hn k (h2 k hk),h2,fun k hk=>aam (h3 k hk) hm.size⟩
theorem Ln.below(h:Ln w T b F s)(hb:Below w.heap.size w w'):Ln w' T b F s:=h.mod (Mod.aS (fun _=>False) hb) (fun _ _ h=>h)
theorem Ln.lt(h:Ln w T b F s):∀k,F k->k<w.heap.size:=by
 obtain ⟨a1,c1,a2,c2,h1,h2,h3⟩:=h;exact h3
theorem jv.ln{a1 a2:Option Addr}{c1 c2:Nat}(h:jv w T b s a1 c1 a2 c2):Ln w T b (fp b a1 a2) s:=⟨a1,c1,a2,c2,h,fun _ h=>h,h.lt⟩
def wg(w:World)(T:TypeId)(b:Nat)(F:Nat->Prop)(s':LS)(w':World):Prop:=Mod F w w'/\∃F',Ln w' T b F' s'/\∀k,F' k->F k\/w.heap.size<=k
theorem wg.same(h:Ln w T b F s)(hb:Below w.heap.size w w'):wg w T b F s w':=⟨Mod.aS _ hb,F,h.below hb,fun _ h=> .inl h⟩
theorem infoI:(prog.info? 2).map (fun i=>(i.zero,i.size,i.bytes))=some (some (.int .i64 0),1,8):=by kernel_rfl
theorem VS:(prog.info? 187).map (fun i=>(i.zero,i.size,i.bytes))=some (some (.agg #[.int .i64 0,.int .i64 0]),2,16):=by kernel_rfl
theorem sizeI:(prog.info? 2).map (·.size)=some 1:=by kernel_rfl
theorem OB:(prog.info? 187).map (·.size)=some 2:=by kernel_rfl
theorem info_parts{z:Value}{bytes:Nat}(h:(P.info? e).map (fun i=>(i.zero,i.size,i.bytes))=some (some z,size,bytes)):∃i,P.info? e=some i/\i.zero=some z/\i.size=size/\i.bytes=bytes:=by
 cases hi:P.info? e with
 |none=>rw [hi]at h;cases h
 |some i=>
  rw [hi]at h;simp only [Option.map_some,Option.some.injEq,Prod.mk.injEq]at h;exact ⟨i,rfl,h.1,h.2.1,h.2.2⟩
theorem below_drewN{B:Nat}{a:World}(h:Below B a w)(n:Nat):Below B a (w.drewN n):=⟨h.os,h.tape,h.output,h.size,h.block⟩
theorem tF(t e:TypeId)(z:Value)(size bytes:Nat)(ht:prog.underlying t=some (.slice e))(hi:(prog.info? e).map (fun i=>(i.zero,i.size,i.bytes))=some (some z,size,bytes))(n:Nat)(hb:bytes*n<=281474976710656)(h63:n<=maxLen)(W:World):
 (Instr.makeSlice t (.int .i64 (n:Int)) (.int .i64 (n:Int))).run prog W=.ok (.slice (some ⟨W.heap.size,0,none⟩) n n) (W.alloc (.cells (madeCells z.cells (n*size)) e)):=by
 obtain ⟨i,h1,h2,h3,h4⟩:=info_parts hi;subst h3 h4;have xX:(n:Int)<=9223372036854775807:=by
  have h:=h63;simp [maxLen]at h;omega
 have eW:(i.bytes:Int)*(n:Int)<=281474976710656:=by
  have h:((i.bytes*n:Nat):Int)<=281474976710656:=by omega
  rwa [Int.natCast_mul]at h
 have hr:=run_make (P:=prog) W t e i z ht h1 h2 .i64 .i64 n n (by omega) (abe _) eW xX;simp only [Int.toNat_natCast]at hr;exact hr
theorem FE(n:Int)(w:World)(B:Bool)(hB:B=decide (0<=n/\n<=65535)):Calls prog 206 #[.int .i64 n] w fun e w'=>e=.returned (.bool B)/\w'=w:=by
 by_cases h0:0<=n
 ·by_cases h1:n<=65535
  ·obtain rfl:B=true:=by rw [hB];simp;omega
   clear hB;go_enter func206,ntmps206
   go_wp2
   go_ret;exact ⟨rfl,rfl⟩
  ·obtain rfl:B=false:=by rw [hB];simp;omega
   have jY:decide (n<=65535)=false:=by simpa using h1
   clear hB;go_enter func206,ntmps206
   go_wp2
   go_ret;exact ⟨rfl,rfl⟩
 ·obtain rfl:B=false:=by rw [hB];simp;omega
  have GY:decide (0<=n)=false:=by simpa using h0
  clear hB;go_enter func206,ntmps206
  go_wp2
  go_ret;exact ⟨rfl,rfl⟩
theorem Ud{vs:List Int}(hR:Rd w a (iC vs))(hn:vs.length<=8000000000000):
 Calls prog 174 #[.slice a vs.length cap] w fun e w'=>∃g,e=.returned (.slice (some ⟨g,0,none⟩) vs.length vs.length)/\Row w' 2 1 (some ⟨g,0,none⟩) vs.length vs.length (iC vs)/\w.heap.size<=g/\Below w.heap.size w w':=by
 obtain ⟨n,hN⟩:=Haa vs.length;have hl:=oo vs;rw [hN.out]at hn hl⊢;have iJ:=tF 144 2 (.int .i64 0) 1 8 underlying144 infoI n (by omega) (by unfold maxLen;omega) w;obtain ⟨zs,gI⟩:=Haa (madeCells (Value.int .i64 0).cells (n*1));have hz:zs.size=n*1:=by rw [<-gI.out];simp [size_madeCells]
 rw [gI.out]at iJ;obtain ⟨w2,jx,wW,aI⟩:=T5 (P:=prog) w 144 2 1 (by decide) underlying144 sizeI (c:=cap) hR hl (by unfold maxLen;omega) (tH vs) zs hz;have HR:=hd wW;have HB:=hd aI;clear hz hR wW aI hl;go_enter func174,ntmps174;go_wp2_with fail;go_ret;exact ⟨_,rfl,HR.out,aag _,HB.out⟩
theorem Nf(hR:Rd w a (wC ws))(hn:ws.length<=8000000000000):
 Calls prog 175 #[.slice a ws.length cap] w fun e w'=>∃g,e=.returned (.slice (some ⟨g,0,none⟩) ws.length ws.length)/\Row w' 187 2 (some ⟨g,0,none⟩) ws.length ws.length (wC ws)/\w.heap.size<=g/\Below w.heap.size w w':=by
 obtain ⟨n,hN⟩:=Haa ws.length;have hl:=tI ws;rw [hN.out]at hn hl⊢;have iJ:=tF 145 187 (.agg #[.int .i64 0,.int .i64 0]) 2 16 underlying145 VS n (by omega) (by unfold maxLen;omega) w;obtain ⟨zs,gI⟩:=Haa (madeCells (Value.agg #[.int .i64 0,.int .i64 0]).cells (n*2));have hz:zs.size=n*2:=by rw [<-gI.out];simp [size_madeCells]
 rw [gI.out]at iJ;obtain ⟨w2,jx,wW,aI⟩:=T5 (P:=prog) w 145 187 2 (by decide) underlying145 OB (c:=cap) hR hl (by unfold maxLen;omega) (JX ws) zs hz;have HR:=hd wW;have HB:=hd aI;clear hz hR wW aI hl;go_enter func175,ntmps175;go_wp2_with fail;go_ret;exact ⟨_,rfl,HR.out,aag _,HB.out⟩
theorem shift_row(hu:P.underlying T=some (.slice e))(hs:(P.info? e).map (·.size)=some size)
 (hR:Row w e size (some ⟨g,0,none⟩) n cap xs)(hi:i+1<n)(h1:∀v∈xs,v.oneCell'=true):
 ∃w',(∀ty,(Builtin.copy_ #[T,T] ty #[.slice (some ⟨g,i*size,none⟩) (n-i) (cap-i),.slice (some ⟨g,(i+1)*size,none⟩) (n-(i+1)) (cap-(i+1))]).run P w=.ok (goInt ((n-(i+1):Nat):Int)) w')/\
  Row w' e size (some ⟨g,0,none⟩) (n-1) (n-1) (xs.take (i*size)++xs.drop ((i+1)*size))/\Mod (fun k=>k=g) w w':=by
 obtain ⟨r1,r2,r3,⟨r4,_⟩|⟨g',cur,r4,hg,cD,jN⟩⟩:=hR
 ·cases r4
 ·cases r4
  have nD:Nat.min (n-(i+1)) (n-i)=n-(i+1):=aaW (by omega);have bZ:(xs.drop ((i+1)*size)).length=(n-(i+1))*size:=by rw [List.length_drop,r1,Nat.sub_mul]
  have hnc:n*size<=cap*size:=aaI _ r2;have dh:(i+1)*size<=n*size:=aaI _ (by omega);have hii:i*size+size=(i+1)*size:=by rw [abq,Nat.one_mul]
  have hsub:(n-(i+1))*size=n*size-(i+1)*size:=Nat.sub_mul _ _ _;have gU:i*size+(xs.drop ((i+1)*size)).length<=cur.size:=by rw [bZ];omega
  have hc:=fun ty=>MB (P:=P) w T T ty e size g (i*size) (n-i) (cap-i) ⟨g,(i+1)*size,none⟩ (n-(i+1)) (cap-(i+1)) cur e (xs.drop ((i+1)*size)) hu hs hg (by rw [nD];exact bZ)
   (fun j v hj=>by
    rw [kO,aaa _ _ _ _ _ _ hg]
    rw [abB,<-jN,aaO]at hj;split at hj
    ·simpa using hj
    ·cases hj) gU (fun v hv=>h1 v (List.mem_of_mem_drop hv))
  rw [nD]at hc;refine ⟨_,hc, ?_,(Mod.refl (fun k=>k=g) w).setRow (.inl rfl) _⟩;have mo:(n-1)*size=n*size-size:=by rw [Nat.sub_mul,Nat.one_mul]
  have AD:(xs.take (i*size)++xs.drop ((i+1)*size)).length=(n-1)*size:=by
   rw [aal,aa4,bZ,r1,aaW (by omega)];omega
  refine ⟨AD,aag _,by omega,.inr ⟨g,_,rfl,setRow_heap _ _ _ _ _ _ hg, ?_, ?_⟩⟩
  ·simp [bZ];omega
  ·have e1:cur.toList.take (i*size)=xs.take (i*size):=by rw [<-jN,List.take_take,aaW (by omega)]
   simp only
   rw [e1,<-AD,List.take_left]
theorem cut_row(hR:Row w e size (some ⟨g,0,none⟩) n cap xs)(hn:0<n):Row w e size (some ⟨g,0,none⟩) (n-1) (n-1) (xs.take ((n-1)*size)++xs.drop (((n-1)+1)*size)):=by
 have:=hR.cut (n-1) (n-1) (by omega) (aag _) (by have:=hR.zR;omega) (fun h=>by cases h)
 rwa [abc (by rw [hR.len,Nat.sub_add_cancel hn];exact aag _),abD]
def Pc(w:World)(e:TypeId)(size g n:Nat)(xs:List Value)(E:Ending)(w':World):Prop:=
 E=.returned (.slice (some ⟨g,0,none⟩) n n)/\Row w' e size (some ⟨g,0,none⟩) n n xs/\Mod (fun k=>k=g) w w'
theorem without_w(hR:Row w 187 2 (some ⟨g,0,none⟩) ws.length cap (wC ws))(hi:i<ws.length):
 Calls prog 227 #[.slice (some ⟨g,0,none⟩) ws.length cap,.int .i64 i] w (Pc w 187 2 g (ws.length-1) (wC (ws.eraseIdx i))):=by
 obtain ⟨Q,hQ⟩:=Haa (Pc w 187 2 g (ws.length-1) (wC (ws.eraseIdx i)));rw [hQ.out];have hE:wC (ws.eraseIdx i)=(wC ws).take (i*2)++(wC ws).drop ((i+1)*2):=by rw [<-erase_eq,Ca,NF,UM]
 have h1:=hR.zR;have h2:cap<9223372036854775807+1:=by have:=hR.2.2.1;unfold maxLen at this;omega
 have HR:Hid (Row w.drew 187 2 (some ⟨g,0,none⟩) ws.length cap (wC ws)):=hd (hR.below ((aak _ w).drew));have HM:Hid (Mod (fun k=>k=g) w w.drew):=hd (Mod.aS _ ((aak _ w).drew));clear hR;obtain ⟨n,hN⟩:=Haa ws.length;rw [hN.out]at hi h1 HR hQ⊢;have k1:(i:Int)<=n:=by omega
 have k2:(i:Int)+1<=n:=by omega
 have k3:(n:Int)<=cap:=by omega
 have k4:cap≠i:=by omega
 have k5:(0:Int)<=(n:Int)-1:=by omega
 have k7:(n:Int)-1=((n-1:Nat):Int):=by omega
 obtain ⟨m,hm⟩:=Haa (n-1);rw [hm.out]at k7 hQ;have k8:m<=cap:=by have:=hm.out;omega
 by_cases hlast:i+1<n
 ·have k6:cap≠i+1:=by omega
  obtain ⟨w2,jx,R2,M2⟩:=shift_row (P:=prog) underlying145 OB HR.out hlast (JX ws)
  have HF:Hid (Q (.returned (.slice (some ⟨g,0,none⟩) m m)) w2):=hd (by
   rw [<-hQ.out]
   exact ⟨rfl,by rw [hE,<-hm.out];exact R2,HM.out.trans M2 (fun _ h=> .inl h)⟩)
  clear R2 M2 hE HR HM;go_enter func227,ntmps227;go_wp2_with fail;go_region;go_wp2_with fail;exact HF.out
 ·have hz:=fun ty d dl dc a sc=>Mx (P:=prog) w.drew 145 145 ty 187 2 d a dl dc 0 sc underlying145 OB (by simp)
  have e0:n-(i+1)=0:=by omega
  have HF:Hid (Q (.returned (.slice (some ⟨g,0,none⟩) m m)) w.drew):=hd (by
   rw [<-hQ.out];refine ⟨rfl, ?_,HM.out⟩;have:=cut_row HR.out (by omega);rw [hE,<-hm.out];have ei:i=n-1:=by omega
   rw [ei]
   exact this)
  clear hE HR HM;by_cases iP:cap=i+1
  ·obtain rfl:n=i+1:=by omega
   subst iP;obtain rfl:m=i:=by have:=hm.out;omega
   go_enter func227,ntmps227;go_wp2_with fail;go_region;go_wp2_with fail;exact HF.out
  ·go_enter func227,ntmps227;go_wp2_with fail;go_region;go_wp2_with fail;exact HF.out
theorem S8{q v:Int}(hc:w.cell? ⟨pb,0,none⟩=some (.int .i64 p))(hl:pb<w.heap.size)(B:Bool)(hB:(q==p)=B):
 Calls prog 246 #[.agg #[.int .i64 q,.int .i64 v],.pointer (some ⟨pb,0,none⟩)] w fun e w'=>e=.returned (.bool B)/\Below w.heap.size w w':=by
 have bC:=Nat.ne_of_lt hl;go_enter func246,ntmps246;go_wp2_with fail;go_ret;exact ⟨rfl,(aak _ _).alloc (aag _) _⟩
theorem WO(h:Rd w a (wC ws))(i:Nat)(hi:i<ws.length):∃b o,a=some ⟨b,o,none⟩/\w.cell? ⟨b,o+i*2,none⟩=some (.int .i64 (ws.getD i (0,0)).1)/\w.cell? ⟨b,o+i*2+1,none⟩=some (.int .i64 (ws.getD i (0,0)).2):=by
 obtain ⟨h1,h2⟩:=v_ ws i hi;obtain ⟨b,o,rfl,k1⟩:=h _ _ h1;obtain ⟨b',o',e,k2⟩:=h _ _ h2
 cases e
 exact ⟨b,o,rfl,k1,k2⟩
theorem MP(hR:Rd w a (wC ws))(hc:w.cell? ⟨pb,0,none⟩=some (.int .i64 p))(hl:pb<w.heap.size)(hn:ws.length<=8000000000000):
 Calls prog 245 #[.slice a ws.length cap,.func (.func 246) #[] #[.pointer (some ⟨pb,0,none⟩)]] w fun e w'=>e=.returned (.int .i64 (qL ws p))/\Below w.heap.size w w':=by
 obtain ⟨I,hI⟩:=Haa (qL ws p);rw [hI.out];have HR:=hd hR;have HC:=hd hc;clear hR hc;go_enter func245,ntmps245;go_wp2_with fail;go_loopg [5,8] ws.length (fun k _ v8 wr=>∃i:Nat,v8=.int .i64 i/\i+k=ws.length/\Hid (Below w.heap.size w wr/\∀j,j<i->(ws.getD j (0,0)).1≠p))
 case atStart=>exact ⟨0,rfl,by omega,hd ⟨fk _,fun j hj=>absurd hj (aao j)⟩⟩
 case round=>
  obtain ⟨i,rfl,dh,HH⟩:=hrel;have hb:=HH.out.1;by_cases af:i<ws.length
  ·have fI:(i:Int)<(ws.length:Int):=by omega
   obtain ⟨b,o,rfl,c0,c1⟩:=WO (HR.out.below hb) i af;have hp:=(hb.cell (p:=⟨pb,0,none⟩) hl).trans HC.out;have mq:=aam hl hb.size;obtain ⟨⟨q,v⟩,hq⟩:∃t,Hid (ws.getD i (0,0)=t):=⟨_,rfl⟩;rw [hq.out]at c0 c1;simp only at c0 c1;by_cases he:q=p
   ·have bZ:=S8 (q:=q) (v:=v) hp mq true (by simp [he]);have hF:Hid (I=(i:Int)):=hd (by rw [<-hI.out];exact idxL_some af (by rw [hq.out];exact he) HH.out.2);clear he;go_wp2_with (first|(go_at_call 246;refine bZ.mono ?_;rintro e1 w1 ⟨rfl,b1⟩));go_ret;exact ⟨by rw [hF.out];rfl,hb.trans (b1.mono hb.size)⟩
   ·have bZ:=S8 (q:=q) (v:=v) hp mq false (by simp [he]);have HN:Hid (q≠p):=hd he;clear he;go_wp2_with (first|(go_at_call 246;refine bZ.mono ?_;rintro e1 w1 ⟨rfl,b1⟩));go_roundg (gk-1)
    case measure=>omega
    case rel=>
     exact ⟨i+1,by go_num,by omega,hd ⟨hb.trans (b1.mono hb.size),fun j hj=>by
      by_cases ej:j=i
      ·rw [ej,hq.out];exact HN.out
      ·exact HH.out.2 j (by omega)⟩⟩
  ·have z_:decide ((i:Int)<(ws.length:Int))=false:=by simp;omega
   have hF:Hid (I=-1):=hd (by rw [<-hI.out];exact idxL_none (fun j hj=>HH.out.2 j (by omega)));go_wp2_with fail;go_ret;exact ⟨by rw [hF.out];rfl,hb⟩
theorem ML(h:Ln w 283 b F s)(p:Int)(hn:s.ws.length<=8000000000000):
 Calls prog 226 #[.pointer (some ⟨b,0,none⟩),.int .i64 p] w fun e w'=>e=.returned (.int .i64 (qL s.ws p))/\Below w.heap.size w w':=by
 obtain ⟨a1,c1,a2,c2,h,-,-⟩:=h;have h2:=h.below (aA w (.cells #[.int .i64 p] 3));obtain ⟨k0,k1,k2,k3,k4⟩:=h2.cells;have hmf:∀(fn:Fn) (first cap:Array Value) (w:World),(Instr.makeFunc fn first cap).run prog w=.ok (.func fn first cap) w:=fun _ _ _ _=>rfl
 have wX:(w.alloc (.cells #[.int .i64 p] 3)).cell? ⟨w.heap.size,0,none⟩=some (.int .i64 p):=by rw [aaa _ _ _ _ _ _ (aae w _)];rfl
 have bZ:=MP (cap:=c2) h2.uZ.rd wX (by simp) hn;have HB:Hid (Below w.heap.size w (w.alloc (.cells #[.int .i64 p] 3))):=hd (aA w _);clear h h2 wX;go_enter func226,ntmps226;go_wp2_with (first|(go_at_call 245;refine bZ.mono ?_;rintro e1 w1 ⟨rfl,b1⟩));go_ret;exact ⟨rfl,HB.out.trans (b1.mono HB.out.size)⟩
end Go.Proofs.YthopnfbjiifhhaaGreatDoor.aL
