/- The lanes of a process in memory. -/
import Derived.Test.YthopnfbjiifhhaaGreatDoorGLb
import Derived.RangeFuncNested
import Derived.RangeFuncBound
import Derived.Shelf.RegionOpen
import Derived.OwnWalkIn
import Derived.LoopNIn
import Derived.LoopIn
set_option maxHeartbeats 2000000
set_option maxRecDepth 100000
namespace Go.Proofs.YthopnfbjiifhhaaGreatDoor.aL
open Go.RowKit Go.Proofs.Tryz
def pC(bs:List Nat):List Value:=bs.map (fun b=> .pointer (some ⟨b,0,none⟩))
theorem pC_len(l:List Nat):(pC l).length=l.length*1:=by simp [pC]
theorem pC_app(l m:List Nat):pC (l++m)=pC l++pC m:=by simp [pC]
theorem pC_at(l:List Nat)(i:Nat)(h:i<l.length):(pC l)[i]?=some (.pointer (some ⟨l.getD i 0,0,none⟩)):=by
 simp [pC,List.getD_eq_getElem?_getD,List.getElem?_eq_getElem h]
def qv(b:Nat)(a:Option Addr)(n:Nat)(Fs:Nat->Nat->Prop)(k:Nat):Prop:=k=b\/ae a=some k\/∃i,i<n/\Fs i k
structure jL(w:World)(TP TL TE:TypeId)(b:Nat)(ss:List LS)(cur:Nat)(a:Option Addr)(cap:Nat)(bs:List Nat)(Fs:Nat->Nat->Prop):Prop where
 obj:w.heap[b]?=some (.cells #[.slice a ss.length cap,.int .i64 (cur:Int)] TP (0,0))
 row:Row w TE 1 a ss.length cap (pC bs)
 uu:∀i,i<ss.length->Ln w TL (bs.getD i 0) (Fs i) (dL ss i)
 ap:∀i j,i<ss.length->j<ss.length->i≠j->∀k,Fs i k->¬Fs j k
 fa:∀k,ae a=some k->k≠b/\∀i,i<ss.length->¬Fs i k
 fb:∀i,i<ss.length->¬Fs i b
section
variable{w w' w0:World} {TP TL TE:TypeId} {b:Nat} {ss C6:List LS} {cur:Nat} {a:Option Addr} {cap:Nat} {bs:List Nat} {Fs:Nat->Nat->Prop}
theorem jL.W_(h:jL w TP TL TE b ss cur a cap bs Fs):bs.length=ss.length:=by
 have:=h.row.len;rw [pC_len]at this;omega
theorem jL.blt(h:jL w TP TL TE b ss cur a cap bs Fs):b<w.heap.size:=(aab.1 h.obj).1
theorem jL.lt(h:jL w TP TL TE b ss cur a cap bs Fs):∀k,qv b a ss.length Fs k->k<w.heap.size:=fun k hk=>by
 rcases hk with rfl|hk|⟨i,hi,hk⟩
 ·exact h.blt
 ·exact h.row.lt k hk
 ·exact (h.uu i hi).lt k hk
theorem jL.mod{S:Nat->Prop}(h:jL w TP TL TE b ss cur a cap bs Fs)(hm:Mod S w w')(hn:∀k,qv b a ss.length Fs k->¬S k):jL w' TP TL TE b ss cur a cap bs Fs:=
 ⟨by rw [hm.block b h.blt (hn b (.inl rfl))];exact h.obj,h.row.mod hm (fun k hk=>hn k (.inr (.inl hk))),fun i hi=>(h.uu i hi).mod hm (fun k hk=>hn k (.inr (.inr ⟨i,hi,hk⟩))),h.ap,h.fa,h.fb⟩
theorem jL.below(h:jL w TP TL TE b ss cur a cap bs Fs)(hb:Below w.heap.size w w'):jL w' TP TL TE b ss cur a cap bs Fs:=h.mod (Mod.aS (fun _=>False) hb) (fun _ _ h=>h)
theorem jL.cells(h:jL w TP TL TE b ss cur a cap bs Fs):w.cell? ⟨b,0,none⟩=some (.slice a ss.length cap)/\w.cell? ⟨b,1,none⟩=some (.int .i64 (cur:Int)):=by
 refine ⟨?_, ?_⟩<;>(rw [aaa _ _ _ _ _ _ h.obj];rfl)
theorem jL.free(h:jL w TP TL TE b ss cur a cap bs Fs)(i:Nat):w.frozen? ⟨b,i,none⟩=false:=by simp [World.frozen?,h.obj]
theorem jL.ptr(h:jL w TP TL TE b ss cur a cap bs Fs)(i:Nat)(hi:i<ss.length):∃g,a=some ⟨g,0,none⟩/\w.cell? ⟨g,i,none⟩=some (.pointer (some ⟨bs.getD i 0,0,none⟩)):=by
 obtain ⟨g,e,hc⟩:=h.row.cell i (by omega);exact ⟨g,e,by rw [hc,pC_at bs i (by rw [h.W_];exact hi)]⟩
structure nH(w:World)(TP TL TE:TypeId)(b:Nat)(a:Option Addr)(cap:Nat)(bs:List Nat)(Fs:Nat->Nat->Prop)(C6:List LS)(Pj:Nat)(w':World)(bG:Nat->Nat->Prop):Prop where
 at':jL w' TP TL TE b C6 Pj a cap bs bG
 mod:Mod (qv b a C6.length Fs) w w'
 new:∀k,qv b a C6.length bG k->qv b a C6.length Fs k\/w.heap.size<=k
theorem jL.to(h:jL w TP TL TE b ss cur a cap bs Fs):nH w TP TL TE b a cap bs Fs ss cur w Fs:=⟨h,Mod.refl _ _,fun _ h=> .inl h⟩
theorem nH.V0{dR:World}{bG:Nat->Nat->Prop}(h:nH w TP TL TE b a cap bs Fs ss cur w' bG){i:Nat}(hi:i<ss.length){s':LS}{F':Nat->Prop}(hm:Mod (bG i) w' dR)(hL:Ln dR TL (bs.getD i 0) F' s')(xk:∀k,F' k->bG i k\/w'.heap.size<=k):
 nH w TP TL TE b a cap bs Fs (ss.set i s') cur dR (fun j k=>if j=i then F' k else bG j k):=by
 have af:=h.at'.lt;refine ⟨?_, ?_, ?_⟩
 ·have cQ:=h.at'.blt;refine ⟨?_, ?_, ?_, ?_, ?_, ?_⟩
  ·rw [aaz,hm.block b cQ (h.at'.fb i hi)];exact h.at'.obj
  ·rw [aaz];exact h.at'.row.mod hm (fun k hk=>(h.at'.fa k hk).2 i hi)
  ·intro j hj;rw [aaz]at hj;rw [lnOf_set _ _ _ _ hi];by_cases e:j=i
   ·subst e;simp only [if_true];exact hL
   ·simp only [if_neg e];exact (h.at'.uu j hj).mod hm (fun k hk=>h.at'.ap j i hj hi e k hk)
  ·intro j l hj hl jG k hk bk;rw [aaz]at hj hl;by_cases e:j=i
   ·subst e;rw [aah rfl]at hk;rw [aaf (fun e=>jG e.symm)]at bk;rcases xk k hk with h1|h1
    ·exact h.at'.ap j l hj hl jG k h1 bk
    ·have:=(h.at'.uu l hl).lt k bk;omega
   ·rw [aaf e]at hk;by_cases e2:l=i
    ·subst e2;rw [aah rfl]at bk;rcases xk k bk with h1|h1
     ·exact h.at'.ap j l hj hl jG k hk h1
     ·have:=(h.at'.uu j hj).lt k hk;omega
    ·rw [aaf e2]at bk;exact h.at'.ap j l hj hl jG k hk bk
  ·intro k hk;refine ⟨(h.at'.fa k hk).1,fun j hj bk=> ?_⟩;rw [aaz]at hj;by_cases e:j=i
   ·rw [aah e]at bk;rcases xk k bk with h1|h1
    ·exact (h.at'.fa k hk).2 i hi h1
    ·have:=h.at'.row.lt k hk;omega
   ·rw [aaf e]at bk;exact (h.at'.fa k hk).2 j hj bk
  ·intro j hj bk;rw [aaz]at hj;by_cases e:j=i
   ·rw [aah e]at bk;rcases xk b bk with h1|h1
    ·exact h.at'.fb i hi h1
    ·omega
   ·rw [aaf e]at bk;exact h.at'.fb j hj bk
 ·rw [aaz];exact h.mod.trans hm (fun k hk=>h.new k (.inr (.inr ⟨i,hi,hk⟩)))
 ·rw [aaz];intro k hk;rcases hk with hk|hk|⟨j,hj,hk⟩
  ·exact h.new k (.inl hk)
  ·exact h.new k (.inr (.inl hk))
  ·by_cases e:j=i
   ·rw [aah e]at hk;rcases xk k hk with h1|h1
    ·exact h.new k (.inr (.inr ⟨i,hi,h1⟩))
    ·exact .inr (aai h.mod.size h1)
   ·rw [aaf e]at hk;exact h.new k (.inr (.inr ⟨j,hj,hk⟩))
theorem nH.lane{dR:World}{bG:Nat->Nat->Prop}(h:nH w TP TL TE b a cap bs Fs ss cur w' bG){i:Nat}(hi:i<ss.length){s':LS}(ho:wg w' TL (bs.getD i 0) (bG i) s' dR):
 ∃Fs'',nH w TP TL TE b a cap bs Fs (ss.set i s') cur dR Fs'':=by
 obtain ⟨hm,F',hL,xk⟩:=ho;exact ⟨_,h.V0 hi hm hL xk⟩
theorem nH.modify{S:Nat->Prop}{dR:World}{bG:Nat->Nat->Prop}(h:nH w TP TL TE b a cap bs Fs ss cur w' bG)(hm:Mod S w' dR)(hn:∀k,qv b a ss.length bG k->¬S k)(hw:∀k,S k->w.heap.size<=k):nH w TP TL TE b a cap bs Fs ss cur dR bG:=
 ⟨h.at'.mod hm hn,h.mod.trans hm (fun k hk=> .inr (hw k hk)),h.new⟩
def Ps(w:World)(TP TL TE:TypeId)(b:Nat)(F:Nat->Prop)(ss:List LS)(cur:Nat):Prop:=
 ∃a cap bs Fs,jL w TP TL TE b ss cur a cap bs Fs/\(∀k,qv b a ss.length Fs k->F k)/\∀k,F k->k<w.heap.size
theorem Ps.mod{F S:Nat->Prop}(h:Ps w TP TL TE b F ss cur)(hm:Mod S w w')(hn:∀k,F k->¬S k):Ps w' TP TL TE b F ss cur:=by
 obtain ⟨a,cap,bs,Fs,h1,h2,h3⟩:=h;exact ⟨a,cap,bs,Fs,h1.mod hm fun k hk=>hn k (h2 k hk),h2,fun k hk=>aam (h3 k hk) hm.size⟩
theorem Ps.lt{F:Nat->Prop}(h:Ps w TP TL TE b F ss cur):∀k,F k->k<w.heap.size:=by
 obtain ⟨a,cap,bs,Fs,h1,h2,h3⟩:=h;exact h3
theorem jL.ps(h:jL w TP TL TE b ss cur a cap bs Fs):Ps w TP TL TE b (qv b a ss.length Fs) ss cur:=⟨a,cap,bs,Fs,h,fun _ h=>h,h.lt⟩
def Gq(w:World)(TP TL TE:TypeId)(b:Nat)(F:Nat->Prop)(C6:List LS)(Pj:Nat)(w':World):Prop:=Mod F w w'/\∃F',Ps w' TP TL TE b F' C6 Pj/\∀k,F' k->F k\/w.heap.size<=k
theorem nH.out{F:Nat->Prop}{bG:Nat->Nat->Prop}(h:nH w TP TL TE b a cap bs Fs ss cur w' bG)(hF:∀k,qv b a ss.length Fs k->F k):Gq w TP TL TE b F ss cur w':=
 ⟨h.mod.mono (fun k _ hk=>hF k hk),_,h.at'.ps,fun k hk=>by
  rcases h.new k hk with h1|h1
  ·exact .inl (hF k h1)
  ·exact .inr h1⟩
end
section
variable{b:Nat} {F:Nat->Prop} {ss:List LS} {cur:Nat} {w:World}
def sj(n room:Int):Bool:=decide ((1<=n/\n<=9)/\1<=room/\room<=64)
theorem FX(n room:Int)(w:World):Calls prog 140 #[.int .i64 n,.int .i64 room] w fun e w'=>e=.returned (.bool (sj n room))/\w'=w:=by
 by_cases h0:1<=n
 ·by_cases h1:n<=9
  ·by_cases h2:1<=room
   ·by_cases h3:room<=64
    ·rw [show sj n room=true by simp [sj];omega];go_enter func140,ntmps140
     go_wp2
     go_ret;exact ⟨rfl,rfl⟩
    ·rw [show sj n room=false by simp [sj];omega];have vf:decide (room<=64)=false:=by simp;omega
     have Pk:64<room:=by omega
     clear h3;go_enter func140,ntmps140
     go_wp2
     go_ret;exact ⟨rfl,rfl⟩
   ·rw [show sj n room=false by simp [sj];omega];have vf:decide (1<=room)=false:=by simp;omega
    have Pk:room<1:=by omega
    clear h2;go_enter func140,ntmps140
    go_wp2
    go_ret;exact ⟨rfl,rfl⟩
  ·rw [show sj n room=false by simp [sj];omega];have vf:decide (n<=9)=false:=by simp;omega
   have Pk:9<n:=by omega
   clear h1;go_enter func140,ntmps140
   go_wp2
   go_ret;exact ⟨rfl,rfl⟩
 ·rw [show sj n room=false by simp [sj];omega];have vf:decide (1<=n)=false:=by simp;omega
  have Pk:n<1:=by omega
  clear h0;go_enter func140,ntmps140
  go_wp2
  go_ret;exact ⟨rfl,rfl⟩
end
section
variable{b:Nat} {F:Nat->Prop} {ss:List LS} {cur:Nat} {w:World}
end
structure eD where
 vs:List Int
 ws:List (Int×Int)
 tk:Int
 dr:Int
 a1:Option Addr
 c1:Nat
 a2:Option Addr
 c2:Nat
def T0:eD:=⟨[],[],0,0,none,0,none,0⟩
def eD.ls(t:eD)(room:Nat):LS:=⟨room,t.vs,t.ws,t.tk,t.dr⟩
def C8(t:eD):List Value:=[.slice t.a1 t.vs.length t.c1,.slice t.a2 t.ws.length t.c2,.int .i64 t.tk,.int .i64 t.dr]
def iV(l:List eD):List Value:=l.flatMap C8
def ay(l:List eD)(i:Nat):eD:=l.getD i T0
variable{i x:Nat}{w:World}{a:Option Addr}{ss:List LS}{s:LS}{l:List Nat}
theorem zN{l:List eD}(h:i<l.length):ay l i∈l:=by
 unfold ay;rw [aac,aad h];exact aaG h
theorem Tc{l:List eD}{t:eD}(h:t∈l):∃i,i<l.length/\ay l i=t:=by
 obtain ⟨i,hi,rfl⟩:=aaZ h;exact ⟨i,hi,by unfold ay;rw [aac,aad hi];rfl⟩
theorem JY:∀(l:List eD) (i:Nat),i<l.length->(iV l)[i*4]?=some (.slice (ay l i).a1 (ay l i).vs.length (ay l i).c1)/\(iV l)[i*4+1]?=some (.slice (ay l i).a2 (ay l i).ws.length (ay l i).c2)/\(iV l)[i*4+2]?=some (.int .i64 (ay l i).tk)/\(iV l)[i*4+3]?=some (.int .i64 (ay l i).dr)
 |[],i,h=>absurd h (aao i)
 |t::ts,0,_=>⟨rfl,rfl,rfl,rfl⟩
 |t::ts,i+1,h=>by
  have ih:=JY ts i (by simpa using h);have hl:(C8 t).length=4:=rfl;simp only [iV,ay,List.flatMap_cons,List.getD_cons_succ]at*
  rw [aan (by omega),aan (by omega),aan (by omega),aan (by omega),hl,show(i+1)*4-4=i*4 by omega,show(i+1)*4+1-4=i*4+1 by omega,show(i+1)*4+2-4=i*4+2 by omega,show(i+1)*4+3-4=i*4+3 by omega];exact ih
theorem NN(l:List eD):(iV l).length=l.length*4:=by
 induction l with
 |nil=>rfl
 |cons x r ih=>simp only [iV,List.flatMap_cons,List.length_append,List.length_cons]at*;rw [ih,show(C8 x).length=4 from rfl];omega
theorem UT(l m:List eD):iV (l++m)=iV l++iV m:=by simp [iV]
structure C9(w:World)(a:Option Addr)(l:List eD):Prop where
 rd:Rd w a (iV l)
 el:∀t∈l,AL w t.vs t.ws t.a1 t.a2
theorem C9.below{w':World}{l:List eD}(h:C9 w a l)(hb:Below w.heap.size w w'):C9 w' a l:=⟨h.rd.below hb,fun t ht=>(h.el t ht).below hb⟩
theorem C9.at{l:List eD}(h:C9 w a l)(i:Nat)(hi:i<l.length):∃b o,a=some ⟨b,o,none⟩/\w.cell? ⟨b,o+i*4,none⟩=some (.slice (ay l i).a1 (ay l i).vs.length (ay l i).c1)/\w.cell? ⟨b,o+i*4+1,none⟩=some (.slice (ay l i).a2 (ay l i).ws.length (ay l i).c2)/\w.cell? ⟨b,o+i*4+2,none⟩=some (.int .i64 (ay l i).tk)/\w.cell? ⟨b,o+i*4+3,none⟩=some (.int .i64 (ay l i).dr):=by
 obtain ⟨k0,k1,k2,k3⟩:=JY l i hi;obtain ⟨b,o,rfl,c0⟩:=h.rd _ _ k0;obtain ⟨b1,o1,e1,c1⟩:=h.rd _ _ k1;obtain ⟨b2,o2,e2,c2⟩:=h.rd _ _ k2;obtain ⟨b3,o3,e3,c3⟩:=h.rd _ _ k3
 cases e1;cases e2;cases e3
 exact ⟨b,o,rfl,c0,c1,c2,c3⟩
theorem mX{T e:TypeId}{z:Value}{size bytes:Nat}(hu:prog.underlying T=some (.slice e))(kI:(prog.info? e).map (fun i=>(i.zero,i.size,i.bytes))=some (some z,size,bytes))(gI:z.cells.size=size)(oF:bytes<=64)
 {w:World}{a:Option Addr}{n c:Nat}{xs:List Value}(hR:Row w e size a n c xs)(hn:n<=1000000000000)(us:List Value)(yq:us.length=size)(h1:∀u∈us,u.oneCell'=true):
 ∃a' c' w',(∀ty,(Builtin.append_ #[T,T] ty #[.slice a n c,.slice (some ⟨w.heap.size,0,none⟩) 1 1]).run prog (w.alloc (.cells us.toArray e))=.ok (.slice a' (n+1) c') w')/\
  Row w' e size a' (n+1) c' (xs++us)/\Mod (fun k=>ae a=some k) w w'/\(∀k,ae a'=some k->ae a=some k\/w.heap.size<=k):=by
 obtain ⟨i,k1,k2,k3,k4⟩:=info_parts kI;have hb:=aA w (.cells us.toArray e);have hh:=aae w (.cells us.toArray e);have hs:Src prog size T (.slice (some ⟨w.heap.size,0,none⟩) 1 1) 1 us (w.alloc (.cells us.toArray e)):=by
  refine Src.ofSlice _ hu _ _ _ _ (by omega) (fun j u hj=> ?_) h1;rw [kO,aaa _ _ _ _ _ _ hh,aaH];simpa using hj
 obtain ⟨a',c',w',m1,m2,m3,m4,_⟩:=mD (P:=prog) _ T e i _ size bytes hu k1 k2 k3 k4 gI (hR.below hb) _ 1 _ hs (by unfold maxLen;omega) (by
  have:(n+1)*bytes<=(n+1)*64:=abj _ oF
  omega)
 refine ⟨a',c',w',m1,m2,(Mod.aS _ hb).trans m3 (fun _ h=> .inl h),fun k hk=> ?_⟩;rcases m4 k hk with h|h
 ·exact .inl h
 ·exact .inr (by have:=hb.size;omega)
theorem V4:(prog.info? 245).map (fun i=>(i.zero,i.size,i.bytes))=some (some (.pointer none),1,8):=by kernel_rfl
theorem infoA:(prog.info? 147).map (fun i=>(i.zero,i.size,i.bytes))=some (some (.agg #[.slice none 0 0,.slice none 0 0,.int .i64 0,.int .i64 0]),4,64):=by kernel_rfl
theorem SC(h:i<ss.length):dL (ss++[s]) i=dL ss i:=by
 unfold dL;rw [aac,aac,aaE h]
theorem SE:dL (ss++[s]) ss.length=s:=by
 unfold dL;rw [aac,aan (aag _)];simp
theorem getD_app_lt(h:i<l.length):(l++[x]).getD i 0=l.getD i 0:=by
 rw [aac,aac,aaE h]
theorem getD_app_eq:(l++[x]).getD l.length 0=x:=by
 rw [aac,aan (aag _)];simp
def Mk(w:World)(TP TL TE:TypeId)(b:Nat)(ss:List LS)(cur:Nat)(a:Option Addr)(cap:Nat)(wr:World):Prop:=
 ∃bs Fs,jL wr TP TL TE b ss cur a cap bs Fs/\(∀k,qv b a ss.length Fs k->w.heap.size<=k)/\Below w.heap.size w wr
section
variable{w wr w1 w':World} {TP TL TE:TypeId} {b:Nat} {ss:List LS} {cur:Nat} {a a':Option Addr} {cap cap':Nat}
theorem Mk.au(h:Mk w TP TL TE b ss cur a cap wr)(hb:Below wr.heap.size wr w1):Mk w TP TL TE b ss cur a cap w1:=by
 obtain ⟨bs,Fs,h1,h2,h3⟩:=h;exact ⟨bs,Fs,h1.below hb,h2,h3.trans (hb.mono h3.size)⟩
theorem Mk.cells(h:Mk w TP TL TE b ss cur a cap wr):wr.cell? ⟨b,0,none⟩=some (.slice a ss.length cap)/\wr.cell? ⟨b,1,none⟩=some (.int .i64 (cur:Int)):=by
 obtain ⟨bs,Fs,h1,h2,h3⟩:=h;exact h1.cells
theorem Mk.row(h:Mk w TP TL TE b ss cur a cap wr):∃xs,Row wr TE 1 a ss.length cap xs:=by
 obtain ⟨bs,Fs,h1,h2,h3⟩:=h;exact ⟨_,h1.row⟩
theorem Mk.push(h:Mk w TP TL TE b ss cur a cap wr)(hb:Below wr.heap.size wr w1){b1:Nat}{F1:Nat->Prop}{s:LS}(hL:Ln w1 TL b1 F1 s)(ux:∀k,F1 k->wr.heap.size<=k)
 (aO:∀xs,Row w1 TE 1 a ss.length cap xs->Row w' TE 1 a' (ss.length+1) cap' (xs++pC [b1]))(hm:Mod (fun k=>ae a=some k) w1 w')(hn:∀k,ae a'=some k->ae a=some k\/w1.heap.size<=k):
 Mk w TP TL TE b (ss++[s]) cur a' cap' (w'.setCell ⟨b,0,none⟩ (.slice a' (ss.length+1) cap')):=by
 obtain ⟨bs,Fs,h0,h2,h3⟩:=h;have h1:=h0.below hb;have cQ:=h0.blt;have hlen:=h0.W_;have hR:=aO _ h1.row;have af:=h0.lt;have gi:=hb.size;have jk:∀k,k≠b->(w'.setCell ⟨b,0,none⟩ (.slice a' (ss.length+1) cap')).heap[k]?=w'.heap[k]?:=fun k hk=>aay _ _ _ _ hk
 have Ys:Mod (fun k=>k=b) w' (w'.setCell ⟨b,0,none⟩ (.slice a' (ss.length+1) cap')):=⟨rfl,rfl,rfl,by simp [World.setCell],fun k _ hk=>jk k hk⟩;have n1:∀k,ae a'=some k->k≠b:=fun k hk=>by
  rcases hn k hk with h4|h4
  ·exact (h1.fa k h4).1
  ·omega
 have nF:∀k,ae a'=some k->∀i,i<ss.length->¬Fs i k:=fun k hk i hi hf=>by
  rcases hn k hk with h4|h4
  ·exact (h1.fa k h4).2 i hi hf
  ·have:=(h1.uu i hi).lt k hf;omega
 have nF1:∀k,ae a'=some k->¬F1 k:=fun k hk hf=>by
  rcases hn k hk with h4|h4
  ·have:=h0.row.lt k h4;have:=ux k hf;omega
  ·have:=hL.lt k hf;omega
 refine ⟨bs++[b1],fun i k=>if i=ss.length then F1 k else Fs i k,⟨?_, ?_, ?_, ?_, ?_, ?_⟩, ?_, ?_⟩
 ·rw [aal,aU ((hm.block b h1.blt (fun e=>(h1.fa b e).1 rfl)).trans h1.obj)];rfl
 ·rw [aal,pC_app];exact hR.kept (fun k hk=>jk k (n1 k hk))
 ·intro i hi;rw [aal]at hi;simp only [List.length_singleton]at hi;by_cases e:i=ss.length
  ·subst e;simp only [if_true];rw [SE,show(bs++[b1]).getD ss.length 0=b1 by rw [<-hlen];exact getD_app_eq];exact (hL.mod hm (fun k hk e=>by have:=h0.row.lt k e;have:=ux k hk;omega)).mod Ys (fun k hk e=>by have:=ux k hk;omega)
  ·have gj:i<ss.length:=by omega
   simp only [if_neg e];rw [SC gj,getD_app_lt (by omega)];exact ((h1.uu i gj).mod hm (fun k hk e=>(h1.fa k e).2 i gj hk)).mod Ys (fun k hk e=>h1.fb i gj (e▸hk))
 ·intro i j hi hj iI k hk bk;rw [aal]at hi hj;simp only [List.length_singleton]at hi hj;by_cases e:i=ss.length
  ·rw [aah e]at hk;rw [aaf (by omega)]at bk;have:=(h0.uu j (by omega)).lt k bk;have:=ux k hk;omega
  ·rw [aaf e]at hk;by_cases e2:j=ss.length
   ·rw [aah e2]at bk;have:=(h0.uu i (by omega)).lt k hk;have:=ux k bk;omega
   ·rw [aaf e2]at bk;exact h0.ap i j (by omega) (by omega) iI k hk bk
 ·intro k hk;refine ⟨n1 k hk,fun i hi hf=> ?_⟩;rw [aal]at hi;simp only [List.length_singleton]at hi;by_cases e:i=ss.length
  ·rw [aah e]at hf;exact nF1 k hk hf
  ·rw [aaf e]at hf;exact nF k hk i (by omega) hf
 ·intro i hi hf;rw [aal]at hi;simp only [List.length_singleton]at hi;by_cases e:i=ss.length
  ·rw [aah e]at hf;have:=ux b hf;omega
  ·rw [aaf e]at hf;exact h0.fb i (by omega) hf
 ·intro k hk;have hw:=h3.size;rcases hk with hk|hk|⟨i,hi,hk⟩
  ·exact h2 k (.inl hk)
  ·rcases hn k hk with h4|h4
   ·exact h2 k (.inr (.inl h4))
   ·omega
  ·rw [aal]at hi;simp only [List.length_singleton]at hi;by_cases e:i=ss.length
   ·rw [aah e]at hk;have:=ux k hk;omega
   ·rw [aaf e]at hk;exact h2 k (.inr (.inr ⟨i,by omega,hk⟩))
 ·have ai:w.heap.size<=b:=h2 b (.inl rfl);have hw:=h3.size;refine ((h3.trans (hb.mono hw)).trans (hm.below (by omega) (fun k _ hk=>h2 k (.inr (.inl hk))))).setCell (p:=⟨b,0,none⟩) ai _
theorem Mk.new(w:World)(TP TL TE:TypeId)(cur:Nat):Mk w TP TL TE w.heap.size [] cur none 0 (w.alloc (.cells #[.slice none 0 0,.int .i64 (cur:Int)] TP)):=
 ⟨[],fun _ _=>False,⟨aae _ _,Row.nil,fun i hi=>by simp at hi,fun i j hi=>by simp at hi,fun k hk=>(by cases hk),fun i hi=>by simp at hi⟩,fun k hk=>by
  rcases hk with rfl|hk|⟨i,hi,_⟩
  ·exact aag _
  ·cases hk
  ·simp at hi,aA w _⟩
end
def V5(w:World)(TP TL TE:TypeId)(ss:List LS)(cur:Nat)(E:Ending)(w':World):Prop:=
 ∃b F,E=.returned (.tuple #[.pointer (some ⟨b,0,none⟩),.int .i64 0])/\Ps w' TP TL TE b F ss cur/\(∀k,F k->w.heap.size<=k)/\Below w.heap.size w w'
variable{w:World}{cur:Nat}{a:Option Addr}
theorem Mk.made{wr:World}{TP TL TE:TypeId}{b:Nat}{ss:List LS}{cap:Nat}(h:Mk w TP TL TE b ss cur a cap wr):V5 w TP TL TE ss cur (.returned (.tuple #[.pointer (some ⟨b,0,none⟩),.int .i64 0])) wr:=by
 obtain ⟨bs,Fs,h1,h2,h3⟩:=h;exact ⟨b,_,rfl,h1.ps,h2,h3⟩
def zO(w:World)(TP TL TE:TypeId)(room:Nat)(l:List eD)(cur:Nat)(E:Ending)(w':World):Prop:=
 ((∀t∈l,xW room t.vs t.ws t.tk t.dr)/\V5 w TP TL TE (l.map (·.ls room)) cur E w')\/((∃t∈l,¬xW room t.vs t.ws t.tk t.dr)/\US w 4 E w')
theorem map_take_snoc(l:List eD)(room i:Nat)(h:i<l.length):(l.take (i+1)).map (·.ls room)=(l.take i).map (·.ls room)++[(ay l i).ls room]:=by
 rw [aaD h,abd];unfold ay;rw [aac,aad h];rfl
def si(l:List eD):Prop:=∀t∈l,t.ws.length<=7000000000000/\∀x∈t.ws,ic x.1
theorem play_any{room:Nat}{l:List eD}{c:Nat}(hA:C9 w a l)(hn:l.length<=9)(mo:1<=l.length)(vE:1<=room)(j9:room<=64)(hc:cur<l.length)(hf:si l):
 Calls prog 118 #[.int .i64 (room:Int),.slice a l.length c,.int .i64 (cur:Int)] w (zO w 244 283 245 room l cur):=by
 have hm:=FX l.length room w;rw [show sj (l.length:Int) (room:Int)=true by simp [sj];omega]at hm;have HM:=hd (Mk.new w 244 283 245 cur);have HA:=hd hA;have hc':(cur:Int)<(l.length:Int):=by omega
 have hcd:decide ((l.length:Int)<=(cur:Int))=false:=by simp;omega
 have Av:decide ((cur:Int)<0)=false:=by simp
 have xn:decide (l.length<=cur)=false:=by simp;omega
 obtain ⟨Q,hQ⟩:∃Q:Ending->World->Prop,Hid (zO w 244 283 245 room l cur=Q):=⟨_,rfl⟩;rw [hQ.out];obtain ⟨n,gZ⟩:=Haa l.length;rw [gZ.out]at hm hc' hcd xn hn mo⊢;clear hA;go_enter func118,ntmps118;go_wp2_with (first|(go_at_call 140;refine hm.mono ?_;rintro e1 w1 ⟨rfl,rfl⟩));obtain ⟨b,hb⟩:=Haa w1.heap.size;rw [hb.out]at HM⊢;go_loopg [31] n (fun k v31 wr=>∃i:Nat,v31=.int .i64 (i:Int)/\i+k=n/\Hid ((∀j,j<i->xW room (ay l j).vs (ay l j).ws (ay l j).tk (ay l j).dr)/\∃a' cap',Mk w1 244 283 245 b ((l.take i).map (·.ls room)) cur a' cap' wr))
 case atStart=>exact ⟨0,rfl,by omega,hd ⟨fun j hj=>by omega,none,0,by simpa using HM.out⟩⟩
 case round=>
  obtain ⟨i,rfl,dh,HH⟩:=hrel;clear HM;by_cases af:i<n
  ·have fI:(i:Int)<(n:Int):=by omega
   obtain ⟨iG,a',cap',A7⟩:=HH.out;have HK:=hd A7;have bP:i<l.length:=by rw [gZ.out];exact af
   have Yt:=hd (HA.out.below (show Below w1.heap.size w1 wr by obtain ⟨_,_,_,_,h3⟩:=A7;exact h3));obtain ⟨ba,oa,rfl,c0,c1,c2,c3⟩:=Yt.out.at i bP;obtain ⟨t,ht⟩:=Haa (ay l i);have HT:Hid (t∈l):=hd (by rw [<-ht.out];exact zN bP);rw [ht.out]at c0 c1 c2 c3;have Lb:=Yt.out.el t HT.out;have aH:=aA wr (.cells #[.slice t.a1 t.vs.length t.c1,.slice t.a2 t.ws.length t.c2,.int .i64 t.tk,.int .i64 t.dr] 147);have gU:=hf t HT.out;have HMA:=hd iG;clear A7 iG;obtain ⟨vn,EF⟩:=Haa t.vs.length;obtain ⟨wn,nX⟩:=Haa t.ws.length;obtain ⟨d0,d1,d2,d3⟩:=Kn wr (.slice t.a1 vn t.c1) (.slice t.a2 wn t.c2) (.int .i64 t.tk) (.int .i64 t.dr) 147;by_cases EG:xW room t.vs t.ws t.tk t.dr
   ·have uy:=lay_ok (c1:=t.c1) (c2:=t.c2) (Lb.below aH) vE j9 (by omega) gU.2 EG;have Pm:=hd EG;rw [EF.out,nX.out]at uy aH;rw [EF.out]at c0;rw [nX.out]at c1;have jO:=hd aH;clear EG gU Lb aH;go_upto_region 12 with(first|(go_at_call 141;refine uy.mono ?_;rintro e2 w2 ⟨bl,F1,rfl,hL,ux,b2⟩));have bY:=hd (jO.out.trans (b2.mono jO.out.size));have HL:=hd hL;have uV:Hid (∀k,F1 k->wr.heap.size<=k):=hd (fun k hk=>aai jO.out.size (ux k hk));have yP:=hd (HK.out.au bY.out);obtain ⟨q0,q1⟩:=yP.out.cells;obtain ⟨xs,bI⟩:=yP.out.row;have hlen:((l.take i).map (·.ls room)).length=i:=by simp;omega
    rw [hlen]at q0 bI;obtain ⟨a2,Pn,w3,aO,R3,M3,B3⟩:=mX (us:=[.pointer (some ⟨bl,0,none⟩)]) underlying242 V4 rfl (by decide) bI (by omega) rfl (fun u hu=>by simp at hu;subst hu;rfl);have bH:∀k,ae a'=some k->k≠b:=by
     obtain ⟨bs,Fs,h1,_,_⟩:=yP.out;exact fun k hk=>(h1.fa k hk).1
    have Po:b<w2.heap.size:=by
     obtain ⟨bs,Fs,h1,_,_⟩:=yP.out;exact h1.blt
    have z0:w3.cell? ⟨b,0,none⟩=some (.slice a' i cap'):=(M3.cell Po (fun e=>bH b e rfl)).trans q0;have z1:w3.frozen? ⟨b,0,none⟩=false:=by
     obtain ⟨bs,Fs,h1,_,_⟩:=yP.out;exact (M3.frozen Po (fun e=>bH b e rfl)).trans (h1.free 0)
    have HE:Hid (∃a' cap',Mk w1 244 283 245 b ((l.take (i+1)).map (·.ls room)) cur a' cap' (w3.setCell ⟨b,0,none⟩ (.slice a2 (i+1) Pn))):=hd (by
     refine ⟨a2,Pn, ?_⟩;rw [map_take_snoc l room i bP,ht.out]
     have:=HK.out.push bY.out HL.out uV.out (a':=a2) (cap':=Pn) (w':=w3) (fun ys sP=>by
      rw [hlen]at sP⊢;obtain ⟨a3,cap3,w4,mh,R4,M4,B4⟩:=mX (us:=[.pointer (some ⟨bl,0,none⟩)]) underlying242 V4 rfl (by decide) sP (by omega) rfl (fun u hu=>by simp at hu;subst hu;rfl);have e:=(aO 0).symm.trans (mh 0)
      cases e
      exact R4) M3 B3
     rw [hlen]at this
     exact this)
    clear R3 M3 B3 HK yP uy b2 hL ux bI bH Po d0 d1 d2 d3 q1;have aO:=hd aO;go_wp2_with (first|(at_builtin;refine dZ rfl _ _ _ rfl _ _ _ _ rfl rfl aO.out ?_));go_roundg (gk-1)
    case measure=>omega
    case rel=>exact ⟨i+1,by go_num,by omega,hd ⟨fun j hj=>by
     by_cases e:j=i
     ·rw [e,ht.out];exact Pm.out
     ·exact HMA.out j (by omega),HE.out⟩⟩
   ·have uy:=lay_form (c1:=t.c1) (c2:=t.c2) (room:=(room:Int)) (Lb.below aH) (by omega) (by omega) (by omega) gU.2 EG;have Pm:=hd EG;rw [EF.out,nX.out]at uy aH;rw [EF.out]at c0;rw [nX.out]at c1;have jO:=hd aH;clear EG gU Lb aH;go_wp2_with (first|(go_at_call 141;refine uy.mono ?_;rintro e2 w2 ⟨rfl,b2⟩));rw [<-hQ.out];refine .inr ⟨⟨t,HT.out,Pm.out⟩,rfl, ?_⟩;obtain ⟨_,_,_,_,h3⟩:=HK.out;have h4:=jO.out.trans (b2.mono jO.out.size);exact h3.trans (h4.mono h3.size)
  ·have z_:decide ((i:Int)<(n:Int))=false:=by simp;omega
   have hle:(n:Int)<=(i:Int):=by omega
   go_wp2_with fail;rw [<-hQ.out];obtain ⟨iG,a',cap',A7⟩:=HH.out;refine .inl ⟨fun t ht=> ?_, ?_⟩
   ·obtain ⟨j,hj,rfl⟩:=Tc ht;exact iG j (by have:=gZ.out;omega)
   ·rw [aap (by have:=gZ.out;omega)]at A7;exact A7.made
theorem BW{n i:Nat}(h:i<n):ay (List.replicate n T0) i=T0:=by
 unfold ay;rw [aac,abf,aah h];rfl
theorem made4(n:Nat):(madeCells (Value.agg #[.slice none 0 0,.slice none 0 0,.int .i64 0,.int .i64 0]).cells (n*4)).toList=iV (List.replicate n T0):=by
 refine aaT (fun j=> ?_);by_cases hj:j<n*4
 ·have hl:(madeCells (Value.agg #[.slice none 0 0,.slice none 0 0,.int .i64 0,.int .i64 0]).cells (n*4)).toList[j]?=some ((Value.agg #[.slice none 0 0,.slice none 0 0,.int .i64 0,.int .i64 0]).cells[j% 4]!):=by
   simp [madeCells,hj,Value.cells]
  rw [hl];have hi:j/4<n:=by omega
  obtain ⟨k0,k1,k2,k3⟩:=JY (List.replicate n T0) (j/4) (by simpa using hi);rw [BW hi]at k0 k1 k2 k3;have hr:j% 4=0\/j% 4=1\/j% 4=2\/j% 4=3:=by omega
  rcases hr with hr|hr|hr|hr
  ·rw [show j=j/4*4 by omega,k0,show j/4*4% 4=0 by omega];rfl
  ·rw [show j=j/4*4+1 by omega,k1,show(j/4*4+1)% 4=1 by omega];rfl
  ·rw [show j=j/4*4+2 by omega,k2,show(j/4*4+2)% 4=2 by omega];rfl
  ·rw [show j=j/4*4+3 by omega,k3,show(j/4*4+3)% 4=3 by omega];rfl
 ·rw [aas (by simp [size_madeCells];omega),aas (by rw [NN];simp;omega)]
section
variable{b:Nat} {F:Nat->Prop} {ss:List LS} {cur:Nat} {w:World}
end
section
variable{b:Nat} {F:Nat->Prop} {ss:List LS} {cur:Nat} {w:World}
end
variable{ss:List LS}
theorem Jf{i:Nat}(h:i<ss.length):ss.take (i+1)=ss.take i++[dL ss i]:=by
 rw [aaD h];unfold dL;rw [aac,aad h];rfl
def Am(ss:List LS):Nat:=(ss.flatMap (·.ws)).length
theorem NP{s:LS}(h:s∈ss):s.ws.length<=Am ss:=by
 unfold Am
 induction ss with
 |nil=>cases h
 |cons x r ih=>
  rw [List.flatMap_cons,aal];rcases aa0.1 h with rfl|h
  ·omega
  ·have:=ih h;omega
theorem tot_take(ss:List LS)(i:Nat):((ss.take i).flatMap (·.ws)).length<=Am ss:=by
 unfold Am;have h:ss.flatMap (·.ws)=(ss.take i).flatMap (·.ws)++(ss.drop i).flatMap (·.ws):=by rw [<-abI,List.take_append_drop]
 rw [h,aal];omega
section
variable{b:Nat} {F:Nat->Prop} {ss:List LS} {cur:Nat} {w:World}
theorem pleave_any(h:Ps w 244 283 245 b F ss cur)(hn:ss.length<=9)(Xa:Am ss<=7000000000000)(p:Int):
 Calls prog 164 #[.pointer (some ⟨b,0,none⟩),.int .i64 p] w fun e w'=>e=.returned (.bool (rU ss p).1)/\Gq w 244 283 245 b F (rU ss p).2 cur w':=by
 obtain ⟨a,cap,bs,Fs,h,hF,-⟩:=h;have HF:=hd hF;obtain ⟨k0,k1⟩:=h.cells;have HP:=hd h.to;obtain ⟨Q,hQ⟩:∃Q:Ending->World->Prop,Hid ((fun e w'=>e=.returned (.bool (rU ss p).1)/\Gq w 244 283 245 b F (rU ss p).2 cur w')=Q):=⟨_,rfl⟩;rw [hQ.out];obtain ⟨n,gZ⟩:=Haa ss.length;rw [gZ.out]at hn k0;clear h hF;go_enter func164,ntmps164;go_wp2_with fail;go_loopg [5,13] n (fun k v5 v13 wr=>∃i:Nat,v13=.int .i64 (i:Int)/\v5=.bool ((ss.take i).any (fun s=>(kH s p).1))/\i+k=n/\Hid (∃bG,nH w 244 283 245 b a cap bs Fs (ny (fun s=>(kH s p).2) i ss) cur wr bG))
 case atStart=>exact ⟨0,rfl,by simp,by omega,hd ⟨Fs,by rw [S7];exact HP.out⟩⟩
 case round=>
  obtain ⟨i,rfl,rfl,dh,HH⟩:=hrel;obtain ⟨B,hB⟩:=Haa ((ss.take i).any (fun s=>(kH s p).1));rw [hB.out];by_cases af:i<n
  ·have fI:(i:Int)<(n:Int):=by omega
   obtain ⟨bG,h1⟩:=HH.out;have bP:i<ss.length:=by rw [gZ.out];exact af
   have A8:i<(ny (fun s=>(kH s p).2) i ss).length:=by rw [Ji];exact bP
   obtain ⟨g,rfl,c0⟩:=h1.at'.ptr i A8;have mK:=Jj (h1.at'.uu i A8) p (by rw [Jw _ bP];have:=NP (DN bP);omega);rw [Jw _ bP]at mK
   have HN:Hid (∀w2,wg wr 283 (bs.getD i 0) (bG i) (kH (dL ss i) p).2 w2->∃bG,nH w 244 283 245 b (some ⟨g,0,none⟩) cap bs Fs (ny (fun s=>(kH s p).2) (i+1) ss) cur w2 bG):=hd (fun w2 ho=>by
    obtain ⟨QC,h2⟩:=h1.lane A8 ho;rw [Tw (fun s=>(kH s p).2) bP]at h2
    exact ⟨QC,h2⟩)
   have bY:Hid ((ss.take (i+1)).any (fun s=>(kH s p).1)=(B||(kH (dL ss i) p).1)):=hd (by rw [Jf bP,List.any_append,hB.out];simp);obtain ⟨r,hr⟩:=Haa (kH (dL ss i) p);obtain ⟨pb,wX⟩:=Haa (bs.getD i 0);rw [hr.out,wX.out]at mK HN;rw [hr.out]at bY;rw [wX.out]at c0;clear h1 A8 bP;obtain ⟨r1,r2⟩:=r;simp only at mK HN bY
   cases r1
   ·go_wp2_with (first|(go_at_call 199;refine mK.mono ?_;rintro e2 w2 ⟨rfl,ho⟩));go_roundg (gk-1)
    case measure=>omega
    case rel=>exact ⟨i+1,by go_num,by rw [bY.out];simp,by omega,hd (HN.out _ ho)⟩
   ·go_wp2_with (first|(go_at_call 199;refine mK.mono ?_;rintro e2 w2 ⟨rfl,ho⟩));go_roundg (gk-1)
    case measure=>omega
    case rel=>exact ⟨i+1,by go_num,by rw [bY.out];simp,by omega,hd (HN.out _ ho)⟩
  ·have z_:decide ((i:Int)<(n:Int))=false:=by simp;omega
   have hle:(n:Int)<=(i:Int):=by omega
   go_wp2_with fail;rw [<-hQ.out];obtain ⟨bG,h1⟩:=HH.out;rw [Tv _ (by have:=gZ.out;omega)]at h1;refine ⟨?_,h1.out (by rw [aa3];exact HF.out)⟩;rw [<-hB.out,aap (by have:=gZ.out;omega)];rfl
def Cd(w:World)(TP TL TE:TypeId)(b:Nat)(F:Nat->Prop)(ss:List LS)(cur:Nat)(E:Ending)(w':World):Prop:=
 ∃a c,E=.returned (.slice a (jf ss).1.length c)/\Row w' 187 2 a (jf ss).1.length c (wC (jf ss).1)/\(∀k,ae a=some k->w.heap.size<=k)/\Mod F w w'/\∃F',Ps w' TP TL TE b F' (jf ss).2 cur/\(∀k,F' k->F k\/w.heap.size<=k)/\∀k,ae a=some k->¬F' k
theorem pend_any(h:Ps w 244 283 245 b F ss cur)(hn:ss.length<=9)(Xa:Am ss<=7000000000000):
 Calls prog 168 #[.pointer (some ⟨b,0,none⟩)] w (Cd w 244 283 245 b F ss cur):=by
 obtain ⟨a,cap,bs,Fs,h,hF,-⟩:=h;have HF:=hd hF;obtain ⟨k0,k1⟩:=h.cells;have HP:=hd h.to;obtain ⟨Q,hQ⟩:∃Q:Ending->World->Prop,Hid (Cd w 244 283 245 b F ss cur=Q):=⟨_,rfl⟩;rw [hQ.out];obtain ⟨n,gZ⟩:=Haa ss.length;rw [gZ.out]at hn k0;clear h hF;go_enter func168,ntmps168;go_wp2_with fail;go_loopg [3,11] n (fun k v3 v11 wr=>∃(i:Nat) (ax:Option Addr) (m cx:Nat),v11=.int .i64 (i:Int)/\v3=.slice ax m cx/\m<=7000000000000/\i+k=n/\Hid (m=((ss.take i).flatMap (·.ws)).length/\Row wr 187 2 ax m cx (wC ((ss.take i).flatMap (·.ws)))/\(∀k,ae ax=some k->w.heap.size<=k)/\∃bG,nH w 244 283 245 b a cap bs Fs (ny tR i ss) cur wr bG/\∀k,ae ax=some k->¬qv b a ss.length bG k))
 case atStart=>exact ⟨0,none,0,0,rfl,rfl,by omega,by omega,hd ⟨by simp,by simpa [wC]using Row.nil,fun k hk=>(by cases hk),Fs,by rw [S7];exact HP.out,fun k hk=>by cases hk⟩⟩
 case round=>
  obtain ⟨i,ax,m,cx,rfl,rfl,hm7,dh,HH⟩:=hrel;by_cases af:i<n
  · have fI:(i:Int)<(n:Int):=by omega
    obtain ⟨hm,hR,dH,bG,h1,Ia⟩:=HH.out;have bP:i<ss.length:=by rw [gZ.out];exact af
    have A8:i<(ny tR i ss).length:=by rw [Ji];exact bP
    obtain ⟨g,rfl,c0⟩:=h1.at'.ptr i A8;have GU:(dL ss i).ws.length<=Am ss:=NP (DN bP);have QD:=NL (h1.at'.uu i A8) (by rw [Jw _ bP];omega);rw [Jw _ bP]at QD;have fQ:m+(dL ss i).ws.length=((ss.take (i+1)).flatMap (·.ws)).length:=by
     rw [Jf bP,abI,aal,<-hm];simp
    have hmm7:m+(dL ss i).ws.length<=7000000000000:=by rw [fQ];have:=tot_take ss (i+1);omega
    have HN:Hid (∀w2,Mod (bG i) wr w2->Ln w2 283 (bs.getD i 0) (bG i) (tR (dL ss i))->nH w 244 283 245 b (some ⟨g,0,none⟩) cap bs Fs (ny tR (i+1) ss) cur w2 (fun j k=>if j=i then bG i k else bG j k)):=hd (fun w2 kX hL=>by
     have h2:=h1.V0 A8 kX hL (fun k hk=> .inl hk)
     rwa [Tw tR bP]at h2)
    have Yu:Hid (∀k,qv b (some ⟨g,0,none⟩) ss.length (fun j k=>if j=i then bG i k else bG j k) k->qv b (some ⟨g,0,none⟩) ss.length bG k):=hd (fun k hk=>by
     rcases hk with hk|hk|⟨j,hj,hk⟩
     · exact .inl hk
     · exact .inr (.inl hk)
     · refine .inr (.inr ⟨j,hj, ?_⟩);by_cases e:j=i
       · rw [aah e]at hk;rw [e];exact hk
       · rw [aaf e]at hk;exact hk)
    have HX:Hid (∀w2,Mod (bG i) wr w2->Row w2 187 2 ax m cx (wC ((ss.take i).flatMap (·.ws)))):=hd (fun w2 kX=>hR.mod kX (fun k hk e=>Ia k hk (.inr (.inr ⟨i,bP,e⟩))));have HLT:Hid (∀k,qv b (some ⟨g,0,none⟩) ss.length bG k->k<wr.heap.size):=hd (fun k hk=>by have:=h1.at'.lt k;rw [Ji]at this;exact this hk);have HRL:=hd hR.lt;have Yv:=hd dH;have Yw:=hd Ia;have QE:=hd h1.mod.size;obtain ⟨wn,nX⟩:=Haa ((dL ss i).ws.length);obtain ⟨pb,wX⟩:=Haa (bs.getD i 0);rw [nX.out,wX.out]at QD;rw [wX.out]at c0 HN;rw [nX.out]at hmm7;have xm:Hid (m+wn=((ss.take (i+1)).flatMap (·.ws)).length):=hd (by rw [<-nX.out];exact fQ);clear h1 fQ hR dH Ia hm
    go_wp2_with (first
     |(go_at_call 202;refine QD.mono ?_;rintro e2 w2 ⟨g2,rfl,R2,lJ,M2,L2⟩
       have HP2:=hd (HN.out w2 M2 L2);have uz:=hd L2.lt;have lS:=hd M2.size;obtain ⟨a3,c3,w3,aO,R3,M3,B3⟩:=join_w (HX.out w2 M2) R2.rd (m:=wn) (c2:=wn) (by rw [tI,nX.out]) (JX _) (by omega);have eV:=hd R3;have Em:=hd M3;have wV:=hd B3;replace aO:=hd aO
       clear R2 L2 R3 M3 B3 M2)
     |(at_builtin;refine dZ rfl _ _ _ rfl _ _ _ _ rfl rfl aO.out ?_;clear aO))
    go_roundg (gk-1)
    case measure=>omega
    case rel=>
     refine ⟨i+1,a3,m+wn,c3,by go_num,rfl,by omega,by omega,hd ⟨xm.out, ?_, ?_,_,HP2.out.modify Em.out (fun k hk e=> ?_) (fun k e=>Yv.out k e),fun k hk bk=> ?_⟩⟩
     · rw [Jf bP,abI,Ca];have:=eV.out;simpa using this
     · intro k hk;rcases wV.out k hk with h1|h1
       · exact Yv.out k h1
       · have:=QE.out;have:=lS.out;omega
     · rw [Ji]at hk;exact Yw.out k e (Yu.out k hk)
     · have h4:=Yu.out k bk;rcases wV.out k hk with h1|h1
       · exact Yw.out k h1 h4
       · have:=HLT.out k h4;have:=lS.out;omega
  · have z_:decide ((i:Int)<(n:Int))=false:=by simp;omega
    have hle:(n:Int)<=(i:Int):=by omega
    go_wp2_with fail;rw [<-hQ.out];obtain ⟨hm,hR,dH,bG,h1,Ia⟩:=HH.out;rw [aap (by have:=gZ.out;omega)]at hm hR;rw [Tv _ (by have:=gZ.out;omega)]at h1;have hlen:(jf ss).1.length=m:=hm.symm;refine ⟨ax,cx,by rw [hlen],by rw [hlen];exact hR,dH,h1.mod.mono (fun k _ hk=>HF.out k (by rwa [aa3]at hk)),_,h1.at'.ps,fun k hk=> ?_,fun k hk bk=>Ia k hk (by rwa [aa3]at bk)⟩;rcases h1.new k hk with h2|h2
    · exact .inl (HF.out k (by rwa [aa3]at h2))
    · exact .inr h2
end
def tb(t:eD)(k:Nat):Prop:=ae t.a1=some k\/ae t.a2=some k
structure nI(B:Nat)(w:World)(l:List eD):Prop where
 r1:∀i,i<l.length->Row w 2 1 (ay l i).a1 (ay l i).vs.length (ay l i).c1 (iC (ay l i).vs)
 r2:∀i,i<l.length->Row w 187 2 (ay l i).a2 (ay l i).ws.length (ay l i).c2 (wC (ay l i).ws)
 ne:∀i,i<l.length->∀k,ae (ay l i).a2=some k->ae (ay l i).a1≠some k
 ge:∀i,i<l.length->∀k,tb (ay l i) k->B<=k
 ap:∀i j,i<l.length->j<l.length->i≠j->∀k,tb (ay l i) k->¬tb (ay l j) k
theorem xN{l:List eD}{t:eD}{i:Nat}(h:i<l.length):ay (l++[t]) i=ay l i:=by
 unfold ay;rw [aac,aac,aaE h]
theorem zF{l:List eD}{t:eD}:ay (l++[t]) l.length=t:=by
 unfold ay;rw [aac,aan (aag _)];simp
section
variable{B:Nat} {w w':World} {l:List eD}
theorem nI.nil(B:Nat)(w:World):nI B w []:=⟨fun i hi=>by simp at hi,fun i hi=>by simp at hi,fun i hi=>by simp at hi,fun i hi=>by simp at hi,fun i j hi=>by simp at hi⟩
theorem nI.lt(h:nI B w l)(i:Nat)(hi:i<l.length):∀k,tb (ay l i) k->k<w.heap.size:=fun k hk=>by
 rcases hk with hk|hk
 ·exact (h.r1 i hi).lt k hk
 ·exact (h.r2 i hi).lt k hk
theorem nI.mod{S:Nat->Prop}(h:nI B w l)(hm:Mod S w w')(hn:∀i,i<l.length->∀k,tb (ay l i) k->¬S k):nI B w' l:=
 ⟨fun i hi=>(h.r1 i hi).mod hm (fun k hk=>hn i hi k (.inl hk)),fun i hi=>(h.r2 i hi).mod hm (fun k hk=>hn i hi k (.inr hk)),h.ne,h.ge,h.ap⟩
theorem nI.below(h:nI B w l)(hb:Below w.heap.size w w'):nI B w' l:=h.mod (Mod.aS (fun _=>False) hb) (fun _ _ _ _ h=>h)
theorem nI.snoc(h:nI B w l)(hB:B<=w.heap.size){vs:List Int}{ws:List (Int×Int)}{a1 a2:Option Addr}{c1 c2:Nat}(ho:VZ w w' vs ws a1 c1 a2 c2)(tk dr:Int):nI B w' (l++[⟨vs,ws,tk,dr,a1,c1,a2,c2⟩]):=by
 have h':=h.below ho.au;refine ⟨fun i hi=> ?_,fun i hi=> ?_,fun i hi=> ?_,fun i hi=> ?_,fun i j hi hj iI k hk bk=> ?_⟩
 ·rw [aal]at hi;simp only [List.length_singleton]at hi;by_cases e:i=l.length
  ·subst e;rw [zF];exact ho.Ag
  ·rw [xN (by omega)];exact h'.r1 i (by omega)
 ·rw [aal]at hi;simp only [List.length_singleton]at hi;by_cases e:i=l.length
  ·subst e;rw [zF];exact ho.uZ
  ·rw [xN (by omega)];exact h'.r2 i (by omega)
 ·rw [aal]at hi;simp only [List.length_singleton]at hi;by_cases e:i=l.length
  ·subst e;rw [zF];exact ho.ne
  ·rw [xN (by omega)];exact h'.ne i (by omega)
 ·rw [aal]at hi;simp only [List.length_singleton]at hi;intro k hk;by_cases e:i=l.length
  ·subst e;rw [zF]at hk;rcases hk with hk|hk
   ·exact aai hB (ho.n1 k hk)
   ·exact aai hB (ho.n2 k hk)
  ·rw [xN (by omega)]at hk;exact h'.ge i (by omega) k hk
 ·rw [aal]at hi hj;simp only [List.length_singleton]at hi hj;have new:∀k,tb ⟨vs,ws,tk,dr,a1,c1,a2,c2⟩ k->w.heap.size<=k:=fun k hk=>by
   rcases hk with hk|hk
   ·exact ho.n1 k hk
   ·exact ho.n2 k hk
  by_cases e:i=l.length
  ·subst e;rw [zF]at hk;rw [xN (by omega)]at bk;have:=new k hk;have:=h.lt j (by omega) k bk;omega
  ·rw [xN (by omega)]at hk;by_cases e2:j=l.length
   ·subst e2;rw [zF]at bk;have:=new k bk;have:=h.lt i (by omega) k hk;omega
   ·rw [xN (by omega)]at bk;exact h.ap i j (by omega) (by omega) iI k hk bk
end
def wi(l:List eD)(ss:List LS):Prop:=l.length=ss.length/\∀i,i<ss.length->(ay l i).vs=(dL ss i).vs/\(ay l i).ws=(dL ss i).ws/\(ay l i).tk=(dL ss i).tk/\(ay l i).dr=(dL ss i).dr
theorem wi.nil:wi [] []:=⟨rfl,fun i hi=>by simp at hi⟩
variable{ss:List LS}{s:LS}
theorem wi.snoc{l:List eD}(h:wi l ss){t:eD}(h1:t.vs=s.vs)(h2:t.ws=s.ws)(h3:t.tk=s.tk)(h4:t.dr=s.dr):wi (l++[t]) (ss++[s]):=by
 refine ⟨by simp [h.1],fun i hi=> ?_⟩;rw [aal]at hi;simp only [List.length_singleton]at hi;by_cases e:i=ss.length
 ·subst e;rw [SE,<-h.1,zF];exact ⟨h1,h2,h3,h4⟩
 ·rw [SC (by omega),xN (by have:=h.1;omega)];exact h.2 i (by omega)
structure V6(w w':World)(a:Option Addr)(c:Nat)(l:List eD):Prop where
 row:Row w' 147 4 a l.length c (iV l)
 at':nI w.heap.size w' l
 ge:∀k,ae a=some k->w.heap.size<=k/\∀i,i<l.length->¬tb (ay l i) k
 au:Below w.heap.size w w'
theorem tlC_set:∀(l:List eD) (t:eD) (r:List eD),((((iV (l++T0::r)).set (l.length*4) (.slice t.a1 t.vs.length t.c1)).set (l.length*4+1) (.slice t.a2 t.ws.length t.c2)).set (l.length*4+2) (.int .i64 t.tk)).set (l.length*4+3) (.int .i64 t.dr)=iV (l++t::r):=by
 intro l t r;have hc:iV (T0::r)=C8 T0++iV r:=by simp [iV]
 have kT:iV (t::r)=C8 t++iV r:=by simp [iV]
 rw [UT,UT,hc,kT];have hl:=NN l;rw [aa6 _ _ (by omega),aa6 _ _ (by omega),aa6 _ _ (by omega),aa6 _ _ (by omega),hl];rw [show l.length*4-l.length*4=0 by omega,show l.length*4+1-l.length*4=1 by omega,show l.length*4+2-l.length*4=2 by omega,show l.length*4+3-l.length*4=3 by omega];rfl
structure D_(w wr:World)(g n:Nat)(l:List eD)(ss:List LS):Prop where
 row:Row wr 147 4 (some ⟨g,0,none⟩) n n (iV (l++List.replicate (n-l.length) T0))
 at':nI w.heap.size wr l
 ge:w.heap.size<=g
 nt:∀i,i<l.length->¬tb (ay l i) g
 au:Below w.heap.size w wr
 Yx:wi l ss
theorem D_.put{w wr w1:World}{g n:Nat}{l:List eD}(h:D_ w wr g n l ss)(hn:l.length<n){g1 g2:Nat}(hT:Told wr w1 s g1 g2):
 D_ w ((((w1.setCell ⟨g,l.length*4,none⟩ (.slice (some ⟨g1,0,none⟩) s.vs.length s.vs.length)).setCell ⟨g,l.length*4+1,none⟩ (.slice (some ⟨g2,0,none⟩) s.ws.length s.ws.length)).setCell ⟨g,l.length*4+2,none⟩ (.int .i64 s.tk)).setCell ⟨g,l.length*4+3,none⟩ (.int .i64 s.dr)) g n (l++[⟨s.vs,s.ws,s.tk,s.dr,some ⟨g1,0,none⟩,s.vs.length,some ⟨g2,0,none⟩,s.ws.length⟩]) (ss++[s]):=by
 have gK:g<wr.heap.size:=h.row.lt g rfl;have jk:∀k,k≠g->((((w1.setCell ⟨g,l.length*4,none⟩ (.slice (some ⟨g1,0,none⟩) s.vs.length s.vs.length)).setCell ⟨g,l.length*4+1,none⟩ (.slice (some ⟨g2,0,none⟩) s.ws.length s.ws.length)).setCell ⟨g,l.length*4+2,none⟩ (.int .i64 s.tk)).setCell ⟨g,l.length*4+3,none⟩ (.int .i64 s.dr)).heap[k]?=w1.heap[k]?:=fun k hk=>by
  rw [aay _ _ _ _ hk,aay _ _ _ _ hk,aay _ _ _ _ hk,aay _ _ _ _ hk]
 have xo:=h.at'.snoc h.au.size hT.own s.tk s.dr;have QF:∀i,i<(l++[(⟨s.vs,s.ws,s.tk,s.dr,some ⟨g1,0,none⟩,s.vs.length,some ⟨g2,0,none⟩,s.ws.length⟩:eD)]).length->¬tb (ay (l++[⟨s.vs,s.ws,s.tk,s.dr,some ⟨g1,0,none⟩,s.vs.length,some ⟨g2,0,none⟩,s.ws.length⟩]) i) g:=fun i hi hk=>by
  rw [aal]at hi;simp only [List.length_singleton]at hi;by_cases e:i=l.length
  ·subst e;rw [zF]at hk;rcases hk with hk|hk
   ·have:=hT.n1;have e:g1=g:=by simpa [ae]using hk
    omega
   ·have:=hT.n2;have e:g2=g:=by simpa [ae]using hk
    omega
  ·rw [xN (by omega)]at hk;exact h.nt i (by omega) hk
 refine ⟨?_, ?_,h.ge,QF, ?_,h.Yx.snoc rfl rfl rfl rfl⟩
 ·have:=((((h.row.below hT.au).put (l.length*4) (.slice (some ⟨g1,0,none⟩) s.vs.length s.vs.length)).put (l.length*4+1) (.slice (some ⟨g2,0,none⟩) s.ws.length s.ws.length)).put (l.length*4+2) (.int .i64 s.tk)).put (l.length*4+3) (.int .i64 s.dr);rw [show n-l.length=(n-(l.length+1))+1 by omega,List.replicate_succ]at this;have e:=tlC_set l ⟨s.vs,s.ws,s.tk,s.dr,some ⟨g1,0,none⟩,s.vs.length,some ⟨g2,0,none⟩,s.ws.length⟩ (List.replicate (n-(l.length+1)) T0);simp only at e;rw [e]at this;rw [aal,aaQ];exact this
 ·exact ⟨fun i hi=>(xo.r1 i hi).kept (fun k hk=>jk k (fun e=>QF i hi (.inl (e▸hk)))),fun i hi=>(xo.r2 i hi).kept (fun k hk=>jk k (fun e=>QF i hi (.inr (e▸hk)))),xo.ne,xo.ge,xo.ap⟩
 ·have dH:=h.ge;refine (((((h.au.trans (hT.au.mono h.au.size)).setCell (p:=⟨g,l.length*4,none⟩) dH _).setCell (p:=⟨g,l.length*4+1,none⟩) dH _).setCell (p:=⟨g,l.length*4+2,none⟩) dH _).setCell (p:=⟨g,l.length*4+3,none⟩) dH _)
section
variable{b:Nat} {F:Nat->Prop} {ss:List LS} {cur:Nat} {w:World}
theorem pstate_any(h:Ps w 244 283 245 b F ss cur)(hg:nj ss cur)(Xa:Am ss<=7000000000000):
 Calls prog 125 #[.pointer (some ⟨b,0,none⟩)] w fun e w'=>∃a c l,e=.returned (.tuple #[.slice a ss.length c,.int .i64 (cur:Int)])/\V6 w w' a c l/\wi l ss:=by
 have hn:=hg.n2;obtain ⟨Q,hQ⟩:∃Q:Ending->World->Prop,Hid ((fun e w'=>∃a c l,e=.returned (.tuple #[.slice a ss.length c,.int .i64 (cur:Int)])/\V6 w w' a c l/\wi l ss)=Q):=⟨_,rfl⟩;rw [hQ.out];obtain ⟨a,cap,bs,Fs,h,hF,-⟩:=h;obtain ⟨n,gZ⟩:=Haa ss.length;have iJ:=tF 113 147 _ 4 64 underlying113 infoA n (by rw [gZ.out]at hn;omega) (by rw [gZ.out]at hn;unfold maxLen;omega) w;have HP:=hd h;obtain ⟨k0,k1⟩:=h.cells;have ai:=aA w (.cells (madeCells (Value.agg #[.slice none 0 0,.slice none 0 0,.int .i64 0,.int .i64 0]).cells (n*4)) 147);obtain ⟨q0,q1⟩:=(h.below ai).cells;have qd:Hid (D_ w (w.alloc (.cells (madeCells (Value.agg #[.slice none 0 0,.slice none 0 0,.int .i64 0,.int .i64 0]).cells (n*4)) 147)) w.heap.size n [] []):=hd
  ⟨by
   have:=mZ (e:=147) (size:=4) (n:=n) (aae w (.cells (madeCells (Value.agg #[.slice none 0 0,.slice none 0 0,.int .i64 0,.int .i64 0]).cells (n*4)) 147)) (size_madeCells _ _) (by rw [gZ.out]at hn;unfold maxLen;omega)
   rw [made4]at this
   simpa using this,nI.nil _ _,aag _,fun i hi=>by simp at hi,ai,wi.nil⟩
 obtain ⟨zs,gI⟩:=Haa (madeCells (Value.agg #[.slice none 0 0,.slice none 0 0,.int .i64 0,.int .i64 0]).cells (n*4));rw [gI.out]at iJ qd q0 q1;rw [gZ.out]at hn k0 q0;obtain ⟨G,hG⟩:=Haa w.heap.size;have Lc:Hid (∀W:World,Below w.heap.size w W->W.cell? ⟨b,1,none⟩=some (.int .i64 (cur:Int))):=hd (fun W hb=>(HP.out.below hb).cells.2);clear h hF ai;go_enter func125,ntmps125;go_wp2_with fail;obtain ⟨w0,iv⟩:=Haa (w.alloc (.cells zs 147));rw [iv.out]at qd⊢;rw [hG.out]at qd⊢;clear iv iJ;go_loopg [5,6,18] n (fun k _ _ v18 wr=>∃i:Nat,v18=.int .i64 (i:Int)/\i+k=n/\Hid (∃l,l.length=i/\D_ w wr G n l (ss.take i)))
 case atStart=>exact ⟨0,rfl,by omega,hd ⟨[],rfl,by simpa using qd.out⟩⟩
 case round=>
  obtain ⟨i,rfl,dh,HH⟩:=hrel;obtain ⟨l,Ib,kA⟩:=HH.out;have HB:=hd kA.au;by_cases af:i<n
  · have fI:(i:Int)<(n:Int):=by omega
    have bP:i<ss.length:=by rw [gZ.out];exact af
    obtain ⟨g,rfl,c0⟩:=(HP.out.below kA.au).ptr i bP;have aJ:=MV ((HP.out.below kA.au).uu i bP) (by have:=(hg.at bP).len;have:=(hg.at bP).r2;omega) (by have:=NP (DN bP);omega)
    have HN:Hid (∀w1 g1 g2,Told wr w1 (dL ss i) g1 g2->(∃l,l.length=i+1/\D_ w ((((w1.setCell ⟨G,i*4,none⟩ (.slice (some ⟨g1,0,none⟩) (dL ss i).vs.length (dL ss i).vs.length)).setCell ⟨G,i*4+1,none⟩ (.slice (some ⟨g2,0,none⟩) (dL ss i).ws.length (dL ss i).ws.length)).setCell ⟨G,i*4+2,none⟩ (.int .i64 (dL ss i).tk)).setCell ⟨G,i*4+3,none⟩ (.int .i64 (dL ss i).dr)) G n l (ss.take (i+1)))
     /\(∃u0 u1 u2 u3,w1.cell? ⟨G,i*4,none⟩=some u0/\w1.cell? ⟨G,i*4+1,none⟩=some u1/\w1.cell? ⟨G,i*4+2,none⟩=some u2/\w1.cell? ⟨G,i*4+3,none⟩=some u3)/\∀j,w1.frozen? ⟨G,j,none⟩=false):=hd (fun w1 g1 g2 hT=>by
     have h1:=kA.put (by omega) hT;rw [<-Jf bP,Ib]at h1;refine ⟨⟨_,by simp [Ib],h1⟩, ?_,fun j=>(kA.row.below hT.au).free j G rfl⟩;have hr:=kA.row.below hT.au;have hc:∀j,j<n*4->∃u,w1.cell? ⟨G,j,none⟩=some u:=fun j hj=>by
      obtain ⟨g',e,hc⟩:=hr.cell j hj
      cases e
      have ky:=hr.len;exact ⟨_,hc.trans (aad (by omega))⟩
     obtain ⟨u0,c0⟩:=hc (i*4) (by omega);obtain ⟨u1,c1⟩:=hc (i*4+1) (by omega);obtain ⟨u2,c2⟩:=hc (i*4+2) (by omega);obtain ⟨u3,c3⟩:=hc (i*4+3) (by omega)
     exact ⟨u0,u1,u2,u3,c0,c1,c2,c3⟩)
    obtain ⟨s,hs⟩:=Haa (dL ss i);obtain ⟨pb,wX⟩:=Haa (bs.getD i 0);rw [hs.out]at aJ HN;rw [wX.out]at aJ c0;unfold H8 at aJ;obtain ⟨vn,EF⟩:=Haa s.vs.length;obtain ⟨wn,nX⟩:=Haa s.ws.length;rw [EF.out,nX.out]at aJ HN;clear kA bP Ib
    go_wp2_with (first|(go_at_call 147;refine aJ.mono ?_;rintro e2 w2 ⟨g1,g2,rfl,hT⟩
                        obtain ⟨gJ,⟨u0,u1,u2,u3,z0,z1,z2,z3⟩,zf⟩:=HN.out _ _ _ hT;have xq:=hd gJ
                        clear gJ hT))
    go_roundg (gk-1)
    case measure=>omega
    case rel=>exact ⟨i+1,by go_num,by omega,xq⟩
  · have z_:decide ((i:Int)<(n:Int))=false:=by simp;omega
    have hle:(n:Int)<=(i:Int):=by omega
    have c1:=Lc.out wr kA.au;have qt:=hd kA;have yR:=hd Ib;clear kA Ib;go_wp2_with fail;go_quiet (fail)
    go_wp2_with fail;rw [<-hQ.out,gZ.out];have jr:i=n:=by omega
    have h1:=qt.out;have h2:=yR.out;rw [aap (by have:=gZ.out;omega)]at h1;refine ⟨some ⟨G,0,none⟩,n,l,rfl, ?_,h1.Yx⟩;have hr:=h1.row;rw [h2,jr,Nat.sub_self]at hr;simp only [List.replicate_zero,List.append_nil]at hr;have cQ:Below wr.heap.size wr (wr.drewN nq):=below_drewN (fk wr) nq;exact ⟨by rw [h2,jr];exact hr.below cQ,h1.at'.below cQ,fun k hk=>by cases hk;exact ⟨h1.ge,h1.nt⟩,h1.au.trans (cQ.mono h1.au.size)⟩
end
open Go.RowKit Go.Shelf
attribute[local go_sem] Oper.semAt_some
theorem TG{b:Nat}{w:World}:Calls prog 218 #[.pointer (some ⟨b,0,none⟩)] w fun e w'=>e=.returned (.func (.func 243) #[] #[.pointer (some ⟨w.heap.size,0,none⟩)])/\w'=w.alloc (.cells #[.pointer (some ⟨b,0,none⟩)] 171):=by
 go_enter func218,ntmps218
 go_wp2
 go_ret;exact ⟨rfl,rfl⟩
structure TkBox(W:World)(G b:Nat)(v ln:Int)(wt:Int×Int)(lt:Bool)(e:Int):Prop where
 o0:W.heap[G]?=some (.cells #[.pointer (some ⟨b,0,none⟩)] 171 (0,0))
 o1:W.heap[G+1]?=some (.cells #[.int .i64 v] 2 (0,0))
 o2:W.heap[G+1+1]?=some (.cells #[.int .i64 ln] 3 (0,0))
 o3:W.heap[G+1+1+1]?=some (.cells #[.int .i64 wt.1,.int .i64 wt.2] 187 (0,0))
 o4:W.heap[G+1+1+1+1]?=some (.cells #[.bool lt] 4 (0,0))
 o5:W.heap[G+1+1+1+1+1]?=some (.cells #[.int .i64 e] 56 (0,0))
section
variable{W W':World} {G b:Nat} {v ln:Int} {wt:Int×Int} {lt:Bool} {e:Int}
end
def TPs(w:World)(ss:List LS)(cur b:Nat)(a:Option Addr)(cap:Nat)(bs:List Nat)(Fs:Nat->Nat->Prop)(B:Nat)(W:World):Prop:=
 ∃bG,nH w 244 283 245 b a cap bs Fs ss cur W bG/\∀k,qv b a ss.length bG k->k<w.heap.size\/(B<=k/\∃o,W.heap[k]?=some o/\o.isCells=true)
section
variable{w W:World} {ss:List LS} {cur b:Nat} {a:Option Addr} {cap:Nat} {bs:List Nat} {Fs:Nat->Nat->Prop} {B:Nat}
end
structure Took(w:World)(ss:List LS)(b:Nat)(a:Option Addr)(cap:Nat)(bs:List Nat)(Fs:Nat->Nat->Prop)(B:Nat)(i:Nat)(W:World):Prop where
 box:TkBox W w.heap.size b (Gl (dL ss i)).1.1 (i:Int) (Gl (dL ss i)).1.2.1 (Gl (dL ss i)).1.2.2.1 (Gl (dL ss i)).1.2.2.2
 ps:TPs w (ss.set i (Gl (dL ss i)).2) ((i+1)% ss.length) b a cap bs Fs B W
theorem zH{W W':World}{row:Option Nat}(h:W.grownBy W' row):Mod (fun k=>row=some k) W W':=⟨h.os,h.tape,h.output,h.size,fun k hk hn=>h.block k hk (fun e=>hn e.symm)⟩
attribute[local go_sem] Oper.semAt_some
end Go.Proofs.YthopnfbjiifhhaaGreatDoor.aL
