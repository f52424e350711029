/- Put, Drop, Wait, Leave, End. -/
import Derived.Test.YthopnfbjiifhhaaGreatDoorGLm
import Derived.Deep.RegionHeld3
set_option maxHeartbeats 2000000
set_option maxRecDepth 100000
namespace Go.Proofs.YthopnfbjiifhhaaGreatDoor.aL
open Go.RowKit Go.Proofs.Tryz
variable{P:Program}{w:World}{ops:Array Oper}{o:Oper}{a:Act}
theorem dZ{rest:List Oper}{Q:Exit->Act->World->Prop}(lM:o.guard=none)(s x:Operand)(t:TypeId)
 (ho:o.op=.call {callee:=.builtin .append,args:=#[s,x],argTypes:=#[t,t]})(v vx v':Value)(w':World)(hs:a.eval s=v)(hx:a.eval x=vx)
 (fK:∀ty,(Builtin.append_ #[t,t] ty #[v,vx]).run P w=.ok v' w')(h:wpList P ops Q rest (a.put o.dst v') w'):wpList P ops Q (o::rest) a w:=
 wpList_plain lM fun K hK=>by
  unfold Oper.wp execOp
  simp only [ho,resolve,invoke,builtin,Sem.run_bind,Sem.run_pure,Result.andThen_ok,List.map_toArray,List.map_cons,List.map_nil,hs,hx,fK];exact hK _ _ h
theorem rN{K:Act->World->Prop}{Q:Exit->Act->World->Prop}{E:Prop}(lM:o.guard=none)(s x:Operand)(t:TypeId)
 (ho:o.op=.call {callee:=.builtin .append,args:=#[s,x],argTypes:=#[t,t]})(v vx v':Value)(w':World)(hs:a.eval s=v)(hx:a.eval x=vx)
 (fK:∀ty,(Builtin.append_ #[t,t] ty #[v,vx]).run P w=.ok v' w')(h:K (a.put o.dst v') w'):if Region.wanted o (yielded ops a.tmps)=true then Oper.wp P o a w K Q else E:=by
 have hw:Region.wanted o (yielded ops a.tmps)=true:=by simp [Region.wanted,lM]
 rw [aah hw];unfold Oper.wp execOp;simp only [ho,resolve,invoke,builtin,Sem.run_bind,Sem.run_pure,Result.andThen_ok,List.map_toArray,List.map_cons,List.map_nil,hs,hx,fK];exact h
section
variable{w w':World} {T:TypeId} {b:Nat} {s:LS} {a1 a2:Option Addr} {c1 c2:Nat} {F:Nat->Prop}
theorem jv.stayW(h:jv w T b s a1 c1 a2 c2)(hm:Mod (fun k=>ae a2=some k) w w')(i:Nat):w'.cell? ⟨b,i,none⟩=w.cell? ⟨b,i,none⟩/\w'.frozen? ⟨b,i,none⟩=false:=
 ⟨hm.cell h.blt (fun e=>(h.f2 b e).1 rfl),(hm.frozen h.blt (fun e=>(h.f2 b e).1 rfl)).trans (h.free i)⟩
end
variable{w:World}{b:Nat}{F:Nat->Prop}{s:LS}
theorem wg.mk'{w1 w2:World}{T:TypeId}{s':LS}{a1 a2 Qy u_:Option Addr}{rr sD:Nat}(hf:∀k,fp b a1 a2 k->F k)(hb:Below w.heap.size w w1)(hm:Mod (fp b a1 a2) w1 w2)
 (hL:jv w2 T b s' Qy rr u_ sD)(hn:∀k,fp b Qy u_ k->fp b a1 a2 k\/w1.heap.size<=k):wg w T b F s' w2:=
 ⟨(Mod.aS F hb).trans hm (fun i hi=> .inl (hf i hi)),_,hL.ln,fun k hk=>by
  rcases hn k hk with h|h
  ·exact .inl (hf k h)
  ·exact .inr (aai hb.size h)⟩
theorem Jj(h:Ln w 283 b F s)(p:Int)(hn:s.ws.length<=8000000000000):
 Calls prog 199 #[.pointer (some ⟨b,0,none⟩),.int .i64 p] w fun e w'=>e=.returned (.bool (kH s p).1)/\wg w 283 b F (kH s p).2 w':=by
 have mq:=ML h p hn;rcases idxL_cases s.ws p with⟨hi,_⟩|⟨i,hi,bP⟩
 ·have e1:kH s p=(false,s):=by unfold kH;rw [aaf (by omega)]
  rw [e1];rw [hi]at mq;have HL:=hd h;clear hi h e1;go_enter func199,ntmps199;go_wp2_with (first|(go_at_call 226;refine mq.mono ?_;rintro e2 w2 ⟨rfl,b2⟩));go_ret;exact ⟨rfl,wg.same HL.out b2⟩
 ·have e1:kH s p=(true,{s with ws:=s.ws.eraseIdx i}):=by unfold kH;rw [aah (by omega),hi];simp
  rw [e1];rw [hi]at mq;obtain ⟨a1,c1,a2,c2,h,hF,-⟩:=h;obtain ⟨g,rfl⟩:=h.uZ.head (by omega);have HL:=hd h;have HF:=hd hF;clear h hF e1 hi;go_enter func199,ntmps199;go_upto_region 4 with(first|(go_at_call 226;refine mq.mono ?_;rintro e2 w2 ⟨rfl,b2⟩));have h1:=HL.out.below b2;have K8:=without_w h1.uZ bP;have q1:=h1.cells.2.2.1;have HE:∀w3,Pc w2 187 2 g (s.ws.length-1) (wC (s.ws.eraseIdx i)) (.returned (.slice (some ⟨g,0,none⟩) (s.ws.length-1) (s.ws.length-1))) w3->
   w3.cell? ⟨b,2,none⟩=w2.cell? ⟨b,2,none⟩/\w3.frozen? ⟨b,2,none⟩=false/\Hid (wg w 283 b F {s with ws:=s.ws.eraseIdx i} (w3.setCell ⟨b,2,none⟩ (.slice (some ⟨g,0,none⟩) (s.ws.length-1) (s.ws.length-1)))):=fun w3 ⟨_,R3,M3⟩=>by
   have M2:Mod (fun k=>ae (some ⟨g,0,none⟩)=some k) w2 w3:=M3.mono (fun k _ hk=>by rw [hk];rfl);obtain ⟨z1,z2⟩:=h1.stayW M2 2;refine ⟨z1,z2,hd ?_⟩;have hP:=h1.WN M2 (Ev:=s.ws.eraseIdx i) R3 (by rw [List.length_eraseIdx,aah bP]) (fun k hk=> .inl hk);exact wg.mk' HF.out b2 ((M2.mono (fun k _ hk=> .inr (.inr hk))).setCell (.inl (.inl rfl)) _) hP (fun k hk=> .inl hk)
  clear HL HF h1 mq b2;obtain ⟨n,hN⟩:∃n,s.ws.length-1=n:=⟨_,rfl⟩;rw [hN]at HE K8;clear hN;have HE:=hd HE;go_upto_region 5 with(first|(go_at_call 227;refine K8.mono ?_;rintro e3 w3 iH;obtain rfl:=iH.1;obtain ⟨z1,z2,HE3⟩:=HE.out w3 iH;rw [q1]at z1;clear iH));go_wp2_with fail;go_ret;exact ⟨rfl,HE3.out⟩
theorem NL(h:Ln w 283 b F s)(hn:s.ws.length<=8000000000000):
 Calls prog 202 #[.pointer (some ⟨b,0,none⟩)] w fun e w'=>∃g,e=.returned (.slice (some ⟨g,0,none⟩) s.ws.length s.ws.length)/\Row w' 187 2 (some ⟨g,0,none⟩) s.ws.length s.ws.length (wC s.ws)/\w.heap.size<=g/\Mod F w w'/\Ln w' 283 b F (tR s):=by
 obtain ⟨a1,c1,a2,c2,h,hF,af⟩:=h;have q1:=h.cells.2.2.1;have jx:=Nf (cap:=c2) h.uZ.rd hn;have HL:=hd h;have HF:=hd hF;have HT:=hd af;clear h hF af;go_enter func202,ntmps202;go_upto_region 2 with(first|(go_at_call 175;refine jx.mono ?_;rintro e3 w3 ⟨g,rfl,R3,H7,b3⟩));have h1:=HL.out.below b3;have q1:=h1.cells.2.2.1;have q2:=h1.free 2
 have HE:Hid (Row (w3.setCell ⟨b,2,none⟩ (.slice none 0 0)) 187 2 (some ⟨g,0,none⟩) s.ws.length s.ws.length (wC s.ws)/\w.heap.size<=g/\Mod F w (w3.setCell ⟨b,2,none⟩ (.slice none 0 0))/\Ln (w3.setCell ⟨b,2,none⟩ (.slice none 0 0)) 283 b F (tR s)):=hd (by
  have hb:=HF.out b (.inl rfl);refine ⟨R3.kept (fun k hk=>aay _ _ _ _ (fun e=> ?_)),H7,(Mod.aS F b3).setCell (.inl hb) _, ?_⟩
  ·cases hk
   have:=HL.out.blt;simp only at e;omega
  ·refine ⟨a1,c1,none,0,h1.WN (Ev:=[]) (Mod.refl _ _) Row.nil rfl (fun k hk=>by cases hk),fun k hk=> ?_,fun k hk=> ?_⟩
   ·rcases hk with hk|hk|hk
    ·exact HF.out k (.inl hk)
    ·exact HF.out k (.inr (.inl hk))
    ·cases hk
   ·have:=HT.out k hk;have:=b3.size;simp [World.setCell]
    omega)
 clear R3 H7 b3 h1 HL HF HT jx;go_wp2_with fail;go_ret;exact ⟨g,rfl,HE.out⟩
section
variable{w w' dR:World} {T:TypeId} {b:Nat} {s':LS} {a1 a2 Qy u_:Option Addr} {rr sD:Nat} {F:Nat->Prop}
end
section
variable{w w':World} {t:TypeId} {G:Nat} {x y:Int}
end
structure Told(w w':World)(s:LS)(g1 g2:Nat):Prop where
 Ag:Row w' 2 1 (some ⟨g1,0,none⟩) s.vs.length s.vs.length (iC s.vs)
 uZ:Row w' 187 2 (some ⟨g2,0,none⟩) s.ws.length s.ws.length (wC s.ws)
 n1:w.heap.size<=g1
 n2:w.heap.size<=g2
 ne:g1≠g2
 au:Below w.heap.size w w'
def H8(s:LS)(a1:Option Addr)(c1:Nat)(a2:Option Addr)(c2:Nat):Value:=.agg #[.slice a1 s.vs.length c1,.slice a2 s.ws.length c2,.int .i64 s.tk,.int .i64 s.dr]
theorem MV{b:Nat}{F:Nat->Prop}{s:LS}{w:World}(h:Ln w 283 b F s)(hv:s.vs.length<=8000000000000)(hn:s.ws.length<=8000000000000):
 Calls prog 147 #[.pointer (some ⟨b,0,none⟩)] w fun e w'=>∃g1 g2,e=.returned (H8 s (some ⟨g1,0,none⟩) s.vs.length (some ⟨g2,0,none⟩) s.ws.length)/\Told w w' s g1 g2:=by
 obtain ⟨a1,c1,a2,c2,h,-,-⟩:=h;have yM:=fun(W:World) (hb:Below w.heap.size w W)=>Ud (cap:=c1) (h.below hb).Ag.rd hv
 have CZ:=fun(W:World) (hb:Below w.heap.size w W)=>Nf (cap:=c2) (h.below hb).uZ.rd hn
 have HL:=hd h;have ai:=aA w (.cells #[.slice none 0 0,.slice none 0 0,.int .i64 0,.int .i64 0] 147);obtain ⟨k0,k1,k2,k3,k4⟩:=(h.below ai).cells;have cQ:=h.blt;obtain ⟨G,hG⟩:=Haa w.heap.size;have HG:Hid ((w.alloc (.cells #[.slice none 0 0,.slice none 0 0,.int .i64 0,.int .i64 0] 147)).heap[w.heap.size]?=some (.cells #[.slice none 0 0,.slice none 0 0,.int .i64 0,.int .i64 0] 147 (0,0))):=hd (aae _ _);have aX:=hd ai;clear h ai;obtain ⟨n,hN⟩:=Haa s.vs.length;obtain ⟨m,hM⟩:=Haa s.ws.length;rw [hN.out]at yM k1;rw [hM.out]at CZ k2;obtain ⟨Q,hQ⟩:∃Q:Ending->World->Prop,Hid ((fun e w'=>∃g1 g2,e=.returned (H8 s (some ⟨g1,0,none⟩) s.vs.length (some ⟨g2,0,none⟩) s.ws.length)/\Told w w' s g1 g2)=Q):=⟨_,rfl⟩;rw [hQ.out];go_enter func147,ntmps147;go_wp2_with fail;obtain ⟨w0,iv⟩:=Haa (w.alloc (.cells #[.slice none 0 0,.slice none 0 0,.int .i64 0,.int .i64 0] 147));rw [iv.out]at HG aX k0 k1 k2 k3 k4⊢;rw [hG.out]at HG⊢
 have HC:Hid (∀W:World,Below w.heap.size w W->(W.cell? ⟨b,1,none⟩=some (.slice a1 n c1)/\W.cell? ⟨b,2,none⟩=some (.slice a2 m c2)/\W.cell? ⟨b,3,none⟩=some (.int .i64 s.tk)/\W.cell? ⟨b,4,none⟩=some (.int .i64 s.dr))):=hd (fun W hb=>by
  have h1:=(HL.out.below hb).cells.2;rw [hN.out,hM.out]at h1
  exact h1)
 have HD:Hid (∀W:World,W.heap[G]?=some (.cells #[.slice none 0 0,.slice none 0 0,.int .i64 0,.int .i64 0] 147 (0,0))->(W.cell? ⟨G,0,none⟩=some (.slice none 0 0)/\W.cell? ⟨G,1,none⟩=some (.slice none 0 0)/\W.cell? ⟨G,2,none⟩=some (.int .i64 0)/\W.cell? ⟨G,3,none⟩=some (.int .i64 0))/\∀i,W.frozen? ⟨G,i,none⟩=false):=hd (fun W hW=>by
  refine ⟨⟨?_, ?_, ?_, ?_⟩,fun i=>by simp [World.frozen?,hW]⟩<;>(rw [aaa _ _ _ _ _ _ hW];rfl))
 have K9:Hid (G<w0.heap.size):=hd (aab.1 HG.out).1;have iy:=yM w0.drew aX.out.drew;have sN:b≠G:=by have:=hG.out;omega
 have K_:∀(W:World) (i:Nat) (u:Value) (j:Nat),(W.setCell ⟨G,i,none⟩ u).cell? ⟨b,j,none⟩=W.cell? ⟨b,j,none⟩:=fun W i u j=>aa1 (aay _ _ _ _ sN)
 go_region_held3 (fun w'=>w'.cell? ⟨b,1,none⟩=some (.slice a1 n c1)/\w'.cell? ⟨b,2,none⟩=some (.slice a2 m c2)/\w'.cell? ⟨b,3,none⟩=some (.int .i64 s.tk)/\w'.cell? ⟨b,4,none⟩=some (.int .i64 s.dr)) (go_keep)
  (first
    |(go_at_call 174;refine iy.mono ?_;rintro e1 w1 ⟨g1,rfl,R1,ED,b1⟩
      have B1:=aX.out.trans ((show Below w0.heap.size w0 w1 from⟨b1.os,b1.tape,b1.output,b1.size,b1.block⟩).mono aX.out.size)
      have nW:=hd ((b1.block G K9.out).trans HG.out);have ry:=hd R1;have HR1x:=hd R1;have jO:=hd b1;have kT:=CZ w1 B1;obtain ⟨u1,u2,u3,u4⟩:=HC.out w1 B1;have Yq:=hd B1;have hgg1:=hd ED
      clear R1 b1 B1 ED)
    |(go_at_call 175;refine kT.mono ?_;rintro e2 w2 ⟨g2,rfl,R2,lJ,b2⟩
      have B2:=Yq.out.trans (b2.mono Yq.out.size);obtain ⟨⟨v1,v2,v3,v4⟩,v5⟩:=HD.out w2 ((b2.block G (aam K9.out jO.out.size)).trans nW.out);obtain ⟨t1,t2,t3,t4⟩:=HC.out w2 B2;have ry:=hd (ry.out.below b2);have um:=hd R2;have hgg2:=hd lJ;have yN:=hd ((b2.block G (aam K9.out jO.out.size)).trans nW.out);have La:=hd B2
      clear R2 lJ b2 B2))
 have HW:=aU (i:=3) (aU (i:=2) (aU (i:=1) (aU (i:=0) yN.out (.slice (some ⟨g1,0,none⟩) n n)) (.slice (some ⟨g2,0,none⟩) m m)) (.int .i64 s.tk)) (.int .i64 s.dr);have hk:∀k,k≠G->((((w2.setCell ⟨G,0,none⟩ (.slice (some ⟨g1,0,none⟩) n n)).setCell ⟨G,1,none⟩ (.slice (some ⟨g2,0,none⟩) m m)).setCell ⟨G,2,none⟩ (.int .i64 s.tk)).setCell ⟨G,3,none⟩ (.int .i64 s.dr)).heap[k]?=w2.heap[k]?:=fun k hk=>by
  rw [aay _ _ _ _ hk,aay _ _ _ _ hk,aay _ _ _ _ hk,aay _ _ _ _ hk]
 have qt:Hid (Q (.returned (H8 s (some ⟨g1,0,none⟩) n (some ⟨g2,0,none⟩) m)) ((((w2.setCell ⟨G,0,none⟩ (.slice (some ⟨g1,0,none⟩) n n)).setCell ⟨G,1,none⟩ (.slice (some ⟨g2,0,none⟩) m m)).setCell ⟨G,2,none⟩ (.int .i64 s.tk)).setCell ⟨G,3,none⟩ (.int .i64 s.dr))):=hd (by
  rw [<-hQ.out,<-hN.out,<-hM.out];have h1:G<g1:=aam K9.out hgg1.out;have h2:g1<w1.heap.size:=(show Row w1 2 1 (some ⟨g1,0,none⟩) _ _ _ from HR1x.out).lt g1 rfl;have h3:w1.heap.size<=g2:=hgg2.out;have hs:=hG.out;rw [hN.out,hM.out];refine ⟨g1,g2,rfl, ?_, ?_,by omega,by omega,by omega, ?_⟩
  · rw [hN.out];exact ry.out.kept (fun k jk=>hk k (by cases jk;simp;omega))
  · rw [hM.out];exact um.out.kept (fun k jk=>hk k (by cases jk;simp;omega))
  · refine ((((La.out.setCell (p:=⟨G,0,none⟩) ?_ _).setCell (p:=⟨G,1,none⟩) ?_ _).setCell (p:=⟨G,2,none⟩) ?_ _).setCell (p:=⟨G,3,none⟩) ?_ _)<;>simp only<;>omega)
 obtain ⟨w3,iH⟩:=Haa ((((w2.setCell ⟨G,0,none⟩ (.slice (some ⟨g1,0,none⟩) n n)).setCell ⟨G,1,none⟩ (.slice (some ⟨g2,0,none⟩) m m)).setCell ⟨G,2,none⟩ (.int .i64 s.tk)).setCell ⟨G,3,none⟩ (.int .i64 s.dr));rw [iH.out]at qt HW⊢;have q0:w3.cell? ⟨G,0,none⟩=some (.slice (some ⟨g1,0,none⟩) n n):=by rw [aaa _ _ _ _ _ _ HW];rfl
 have q1:w3.cell? ⟨G,1,none⟩=some (.slice (some ⟨g2,0,none⟩) m m):=by rw [aaa _ _ _ _ _ _ HW];rfl
 have q2:w3.cell? ⟨G,2,none⟩=some (.int .i64 s.tk):=by rw [aaa _ _ _ _ _ _ HW];rfl
 have q3:w3.cell? ⟨G,3,none⟩=some (.int .i64 s.dr):=by rw [aaa _ _ _ _ _ _ HW];rfl
 unfold H8 at qt;rw [hN.out,hM.out]at qt;clear HW iH hk K_ ry um;go_wp2_with fail;refine aar (by simp [results,results147,go_sem,q0,q1,q2,q3]) rfl qt.out
open Go.RowKit Go.Maps
theorem ng:Keyed prog 3:=int_keyed aaY
structure zU(D:DataW Unit)(ps:List Int):Prop where
 tidy:Tidy D
 has:∀p,Maps.has D (.int .i64 p)=decide (p∈ps)
 le:Maps.size D<=ps.length
 qZ:Maps.size D=ps.length↔ps.Nodup
theorem zU.nil:zU (.map []) []:=⟨⟨[],rfl,List.Pairwise.nil⟩,fun p=>by simp [Maps.has],by simp [Maps.size],by simp [Maps.size]⟩
variable{a a1 a2:Option Addr}{ws:List (Int×Int)}{w w':World}{vs:List Int}{tk dr:Int}{s:LS}
theorem zU.put{D:DataW Unit}{ps:List Int}(h:zU D ps)(p:Int)(d:DataW Unit):zU (D.put (.int .i64 p) d) (ps++[p]):=by
 have hs:=size_put (k:=.int .i64 p) h.tidy d;rw [h.has p]at hs;refine ⟨h.tidy.put (k:=.int .i64 p) trivial d,fun q=> ?_, ?_, ?_⟩
 ·by_cases e:q=p
  ·subst e;rw [has_put_same (k:=.int .i64 q) h.tidy.isMap trivial];simp
  ·rw [has_put_other (by simpa using e),h.has q];simp [e]
 ·rw [hs];have:=h.le;split<;>simp<;>omega
 ·rw [hs,List.nodup_append];have:=h.le;by_cases e:p∈ps
  ·simp only [e,decide_true,if_true,List.length_append,List.length_singleton];constructor
   ·intro h1;omega
   ·rintro ⟨_,_,h3⟩;exact absurd rfl (h3 p e p (by simp))
  ·simp only [e,decide_false,List.length_append,List.length_singleton,Bool.false_eq_true,if_false];constructor
   ·intro h1;refine ⟨h.qZ.1 (by omega),by simp,fun a ha b hb=> ?_⟩;simp at hb;subst hb;exact fun e'=>e (e'▸ha)
   ·rintro ⟨h1,_,_⟩;have:=h.qZ.2 h1;omega
theorem zI{α:Type}(l:List α)(d:α)(i:Nat)(h:i<l.length):l.take (i+1)=l.take i++[l.getD i d]:=by
 rw [aaD h,aac,aad h];rfl
theorem twice_any{cap:Nat}(hR:Rd w a (wC ws))(hn:ws.length<=8000000000000)(hf:∀x∈ws,ic x.1)(T:Bool)(hT:T= !decide (ws.map (·.1)).Nodup):
 Calls prog 205 #[.slice a ws.length cap] w fun e w'=>e=.returned (.bool T)/\Below w.heap.size w w':=by
 have HR:=hd hR;have HF:=hd hf;have HT:=hd hT;have iJ:(w.alloc (.map #[] 0)).ownsMap prog 3 unitElem w.heap.size 0 (.map []:DataW Unit):=World.ownsMap_made w prog 3 unitElem;have HM:Hid (∃D:DataW Unit,(w.alloc (.map #[] 0)).ownsMap prog 3 unitElem w.heap.size 0 D/\zU D ((ws.map (·.1)).take 0)):=hd ⟨_,iJ,by simpa using zU.nil⟩;have aX:Hid (Below w.heap.size w (w.alloc (.map #[] 0))):=hd (aA w _);clear hR hf hT iJ;have fQ:(Instr.makeMap 332 none).run prog w=.ok (.map (some w.heap.size)) (w.alloc (.map #[] 0)):=rfl;go_enter func205,ntmps205;go_wp2_with fail;go_loopg [5,9] ws.length (fun k _ v9 wr=>∃i:Nat,v9=.int .i64 i/\i+k=ws.length/\Hid (Below w.heap.size w wr/\∃D:DataW Unit,wr.ownsMap prog 3 unitElem w.heap.size i D/\zU D ((ws.map (·.1)).take i)))
 case atStart=>exact ⟨0,rfl,by omega,hd ⟨aX.out,HM.out⟩⟩
 case round=>
  obtain ⟨i,rfl,dh,HH⟩:=hrel;clear HM aX;obtain ⟨D,d_,HS⟩:=HH.out.2;have HS:=hd HS;have hb:=HH.out.1;by_cases af:i<ws.length
  ·have fI:(i:Int)<(ws.length:Int):=by omega
   obtain ⟨b,o,rfl,c0,c1⟩:=WO (HR.out.below hb) i af;have gU:=HF.out (ws.getD i (0,0)) (by rw [aac,aad af];exact aaG af)
   have yO:Hid ((ws.map (·.1)).take (i+1)=(ws.map (·.1)).take i++[(ws.getD i (0,0)).1]):=hd (by
    rw [zI (ws.map (·.1)) 0 i (by simpa using af)];congr 2
    simp [List.getD_eq_getElem?_getD,List.getElem?_eq_getElem af])
   obtain ⟨⟨p,v⟩,hq⟩:∃t,Hid (ws.getD i (0,0)=t):=⟨_,rfl⟩;rw [hq.out]at c0 c1 gU yO;simp only at c0 c1 gU yO;have Cx:keyOf prog 3 (.int .i64 p)=some (.int .i64 p):=keyOf_int_mk aaY (WalkArith.wf_i64 gU);have Ch:=d_.alloc (.cells #[.int .i64 p,.int .i64 v] 187);have aI:=hd (hb.alloc hb.size (.cells #[.int .i64 p,.int .i64 v] 187));clear gU d_;go_wp2_with (first|(at_mapUpdate;refine wpList_mapUpdate_own _ rfl _ _ _ 332 rfl 3 333 ng underlying332 unitElem w.heap.size i D rfl Ch (by unfold maxLen;omega) _ _ (.int .i64 p) rfl rfl Cx (.agg []) [] unitElem_mk ?_;intro w1 lD tG)|go_in);go_roundg (gk-1)
   case measure=>omega
   case rel=>exact ⟨i+1,by go_num,by omega,hd ⟨aI.out.grown tG aI.out.size (fun j hj=>by cases hj;exact aag _),_,lD,by rw [yO.out];exact HS.out.put p _⟩⟩
  ·have z_:decide ((i:Int)<(ws.length:Int))=false:=by simp;omega
   have ei:i=ws.length:=by omega
   have hE:Hid (decide (size D<ws.length)=T):=hd (by
    rw [HT.out];have h1:=HS.out.le;have h2:=HS.out.qZ;rw [ei,aap (by simp)]at h1 h2;simp only [List.length_map]at h1 h2;by_cases uk:(ws.map (·.1)).Nodup
    ·have:=h2.2 uk;simp [uk];omega
    ·have:size D≠ws.length:=fun e=>uk (h2.1 e)
     simp [uk];omega)
   clear ei HS;obtain ⟨S,hS⟩:=Haa (size D);have CM:=hE.out;rw [hS.out]at CM;have hlen:=fun ty=>d_.len underlying332 ty
   rw [hS.out]at hlen;go_wp2_with fail;go_ret;exact ⟨by first|rfl|(rw [<-CM];rfl),hb⟩
structure AL(w:World)(vs:List Int)(ws:List (Int×Int))(a1 a2:Option Addr):Prop where
 r1:Rd w a1 (iC vs)
 r2:Rd w a2 (wC ws)
theorem AL.below(h:AL w vs ws a1 a2)(hb:Below w.heap.size w w'):AL w' vs ws a1 a2:=
 ⟨h.r1.below hb,h.r2.below hb⟩
theorem Kn(w:World)(v0 v1 v2 v3:Value)(t:TypeId):(w.alloc (.cells #[v0,v1,v2,v3] t)).cell? ⟨w.heap.size,0,none⟩=some v0/\(w.alloc (.cells #[v0,v1,v2,v3] t)).cell? ⟨w.heap.size,1,none⟩=some v1/\(w.alloc (.cells #[v0,v1,v2,v3] t)).cell? ⟨w.heap.size,2,none⟩=some v2/\(w.alloc (.cells #[v0,v1,v2,v3] t)).cell? ⟨w.heap.size,3,none⟩=some v3:=by
 refine ⟨?_, ?_, ?_, ?_⟩<;>(rw [aaa _ _ _ _ _ _ (aae w _)];rfl)
theorem SB{room:Int}{c1 c2:Nat}(hA:AL w vs ws a1 a2)(hw:ws.length<=8000000000000)(hf:∀x∈ws,ic x.1)(B:Bool)(hB:B=true↔xW room vs ws tk dr):
 Calls prog 173 #[.int .i64 room,.agg #[.slice a1 vs.length c1,.slice a2 ws.length c2,.int .i64 tk,.int .i64 dr]] w fun e w'=>e=.returned (.bool B)/\Below w.heap.size w w':=by
 have ai:=aA w (.cells #[.slice a1 vs.length c1,.slice a2 ws.length c2,.int .i64 tk,.int .i64 dr] 147);obtain ⟨q0,q1,q2,q3⟩:=Kn w (.slice a1 vs.length c1) (.slice a2 ws.length c2) (.int .i64 tk) (.int .i64 dr) 147;have hA0:=hA.below ai;obtain ⟨T,hT⟩:∃T:Bool,T= !decide (ws.map (·.1)).Nodup:=⟨_,rfl⟩;have C4:=twice_any (cap:=c2) hA0.r2 hw hf T hT;have HT:Hid (T=false↔(ws.map (·.1)).Nodup):=hd (by rw [hT];simp);obtain ⟨K1,Qz⟩:∃K1:Bool,K1=decide (0<=tk/\tk<=65535):=⟨_,rfl⟩;obtain ⟨K2,QA⟩:∃K2:Bool,K2=decide (0<=dr/\dr<=65535):=⟨_,rfl⟩;have iy:=fun W=>FE tk W K1 Qz
 have kT:=fun W=>FE dr W K2 QA
 have QB:Hid (K1=true↔(0<=tk/\tk<=65535)):=hd (by rw [Qz];simp);have yP:Hid (K2=true↔(0<=dr/\dr<=65535)):=hd (by rw [QA];simp);have HB:=hd hB;have aX:=hd ai
 have C5:Hid ((vs.length:Int)<=room->(ws.length=0\/room<=(vs.length:Int))->(ws.map (·.1)).Nodup->B=(K1&&K2)):=hd (fun h1 h2 h3=>by
  rw [Bool.eq_iff_iff,HB.out,Bool.and_eq_true,QB.out,yP.out]
  exact ⟨fun h=>h.2.2.2,fun h=>⟨h1,h2,h3,h⟩⟩)
 have nQ:Hid (¬((vs.length:Int)<=room/\(ws.length=0\/room<=(vs.length:Int))/\(ws.map (·.1)).Nodup)->B=false):=hd (fun h=>by
  cases hb:B
  ·rfl
  ·obtain ⟨h1,h2,h3,_⟩:=HB.out.1 hb
   exact absurd ⟨h1,h2,h3⟩ h)
 clear hA hA0 hT Qz QA hB ai hf QB yP HB;obtain ⟨N,hN⟩:=Haa vs.length;obtain ⟨M,hM⟩:=Haa ws.length;have GG:Hid (M=0->(ws.map (·.1)).Nodup):=hd (fun h=>by rw [aaN (hM.out.trans h)];simp);rw [hN.out,hM.out]at aX C5 nQ q0 q1 q2 q3 C4⊢;rw [hM.out]at hw;by_cases g1:room<(N:Int)
 ·have e1:B=false:=nQ.out (fun h=>by omega);subst e1;go_enter func173,ntmps173;go_wp2_with fail;go_ret;exact ⟨rfl,aX.out⟩
 ·have g1':decide (room<(N:Int))=false:=by simpa using g1
  by_cases g2:0<M
  ·have g2':(0:Int)<(M:Int):=by omega
   by_cases g3:(N:Int)<room
   ·have e1:B=false:=nQ.out (fun h=>by omega);subst e1;clear C5 nQ GG;go_enter func173,ntmps173;go_wp2_with fail;go_ret;exact ⟨rfl,aX.out⟩
   ·have g3':decide ((N:Int)<room)=false:=by simpa using g3
    cases EE:T with
    |true=>
     have e1:B=false:=nQ.out (fun h=>by have:=HT.out.2 h.2.2;rw [EE]at this;cases this);rw [EE]at C4;subst e1;clear C5 nQ GG HT EE;go_enter func173,ntmps173;go_wp2_with (first|(go_at_call 205;refine C4.mono ?_;rintro e2 w2 ⟨rfl,b2⟩));go_ret;exact ⟨rfl,aX.out.trans (b2.mono aX.out.size)⟩
    |false=>
     have e1:B=(K1&&K2):=C5.out (by omega) (.inr (by omega)) (HT.out.1 EE);rw [EE]at C4;rw [e1];clear C5 nQ GG HT EE e1;go_enter func173,ntmps173;go_upto_region 5 with(first|(go_at_call 205;refine C4.mono ?_;rintro e2 w2 ⟨rfl,b2⟩));have q2':=(b2.cell (p:=⟨w.heap.size,2,none⟩) (by simp)).trans q2;have q3':=(b2.cell (p:=⟨w.heap.size,3,none⟩) (by simp)).trans q3;have B2:=hd (aX.out.trans (b2.mono aX.out.size));clear C4 b2 q0 q1 q2 q3;have fF:=iy w2;have H9:=kT w2;clear iy kT
     cases K1
     ·go_wp2_with (first|(go_at_call 206;refine fF.mono ?_;rintro e2 w2 ⟨rfl,rfl⟩));go_ret;exact ⟨rfl,B2.out⟩
     ·go_wp2_with (first|(go_at_call 206;first|(with_reducible refine fF.mono ?_;rintro e2 w2 ⟨rfl,rfl⟩;clear fF)|(with_reducible refine H9.mono ?_;rintro e2 w2 ⟨rfl,rfl⟩)));go_ret;exact ⟨by first|rfl|simp,B2.out⟩
  ·have g2':decide (0<M)=false:=by simpa using g2
   have e1:B=(K1&&K2):=C5.out (by omega) (.inl (by omega)) (GG.out (by omega));rw [e1];clear C5 nQ C4 GG HT e1 g2;go_enter func173,ntmps173;go_upto_region 5 with fail;obtain ⟨w2,dX⟩:=Haa (w.alloc (.cells #[.slice a1 N c1,.slice a2 M c2,.int .i64 tk,.int .i64 dr] 147));rw [dX.out]at aX q0 q1 q2 q3⊢;have fF:=iy w2;have H9:=kT w2;clear iy kT
   cases K1
   ·go_wp2_with (first|(go_at_call 206;refine fF.mono ?_;rintro e2 w2 ⟨rfl,rfl⟩));go_ret;exact ⟨rfl,aX.out⟩
   ·go_wp2_with (first|(go_at_call 206;first|(with_reducible refine fF.mono ?_;rintro e2 w2 ⟨rfl,rfl⟩;clear fF)|(with_reducible refine H9.mono ?_;rintro e2 w2 ⟨rfl,rfl⟩)));go_ret;exact ⟨by first|rfl|simp,aX.out⟩
def Made(w:World)(T:TypeId)(s:LS)(E:Ending)(w':World):Prop:=
 ∃b F,E=.returned (.tuple #[.pointer (some ⟨b,0,none⟩),.int .i64 0])/\Ln w' T b F s/\(∀k,F k->w.heap.size<=k)/\Below w.heap.size w w'
def US(w:World)(e:Int)(E:Ending)(w':World):Prop:=E=.returned (.tuple #[.pointer none,.int .i64 e])/\Below w.heap.size w w'
theorem ln_new{T:TypeId}{c1 c2:Nat}(h1:Row w 2 1 a1 s.vs.length c1 (iC s.vs))(h2:Row w 187 2 a2 s.ws.length c2 (wC s.ws))(bC:∀k,ae a2=some k->ae a1≠some k):
 jv (w.alloc (.cells #[.int .i64 s.room,.slice a1 s.vs.length c1,.slice a2 s.ws.length c2,.int .i64 s.tk,.int .i64 s.dr] T)) T w.heap.size s a1 c1 a2 c2:=
 ⟨aae _ _,h1.below (aA _ _),h2.below (aA _ _),fun k hk=>Nat.ne_of_lt (h1.lt k hk),fun k hk=>⟨Nat.ne_of_lt (h2.lt k hk),bC k hk⟩⟩
theorem lay_form{room:Int}{c1 c2:Nat}(hA:AL w vs ws a1 a2)(vE:1<=room)(j9:room<=64)(hw:ws.length<=8000000000000)(hf:∀x∈ws,ic x.1)(hm:¬xW room vs ws tk dr):
 Calls prog 141 #[.int .i64 room,.agg #[.slice a1 vs.length c1,.slice a2 ws.length c2,.int .i64 tk,.int .i64 dr]] w (US w 4):=by
 have ai:=aA w (.cells #[.slice a1 vs.length c1,.slice a2 ws.length c2,.int .i64 tk,.int .i64 dr] 147);obtain ⟨q0,q1,q2,q3⟩:=Kn w (.slice a1 vs.length c1) (.slice a2 ws.length c2) (.int .i64 tk) (.int .i64 dr) 147;have aJ:=SB (c1:=c1) (c2:=c2) (tk:=tk) (dr:=dr) (room:=room) (hA.below ai) hw hf false (by simp [hm]);have g1:decide (room<1)=false:=by simp;omega
 have g2:decide (64<room)=false:=by simp;omega
 have aX:=hd ai;clear hA ai hf hm vE j9;obtain ⟨N,hN⟩:=Haa vs.length;obtain ⟨M,hM⟩:=Haa ws.length;rw [hN.out,hM.out]at aX q0 q1 q2 q3 aJ⊢;clear hw;go_enter func141,ntmps141;go_wp2_with (first|(go_at_call 173;refine aJ.mono ?_;rintro e2 w2 ⟨rfl,b2⟩));go_ret2;exact ⟨rfl,aX.out.trans (b2.mono aX.out.size)⟩
theorem lay_ok{room:Nat}{c1 c2:Nat}(hA:AL w vs ws a1 a2)(vE:1<=room)(j9:room<=64)(hw:ws.length<=8000000000000)(hf:∀x∈ws,ic x.1)(hm:xW room vs ws tk dr):
 Calls prog 141 #[.int .i64 (room:Int),.agg #[.slice a1 vs.length c1,.slice a2 ws.length c2,.int .i64 tk,.int .i64 dr]] w (Made w 283 ⟨room,vs,ws,tk,dr⟩):=by
 have ai:=aA w (.cells #[.slice a1 vs.length c1,.slice a2 ws.length c2,.int .i64 tk,.int .i64 dr] 147);obtain ⟨q0,q1,q2,q3⟩:=Kn w (.slice a1 vs.length c1) (.slice a2 ws.length c2) (.int .i64 tk) (.int .i64 dr) 147;have aJ:=SB (c1:=c1) (c2:=c2) (tk:=tk) (dr:=dr) (room:=(room:Int)) (hA.below ai) hw hf true (by simp [hm]);have g1:decide ((room:Int)<1)=false:=by simp;omega
 have g2:decide (64<(room:Int))=false:=by simp;omega
 have hvl:vs.length<=64:=by have:=hm.1;omega
 have yM:=fun(W:World) (hb:Below w.heap.size w W)=>Ud (cap:=c1) (hA.below hb).r1 (by omega)
 have CZ:=fun(W:World) (hb:Below w.heap.size w W)=>Nf (cap:=c2) (hA.below hb).r2 hw
 have aX:=hd ai;obtain ⟨Q,hQ⟩:∃Q:Ending->World->Prop,Hid (Made w 283 ⟨room,vs,ws,tk,dr⟩=Q):=⟨_,rfl⟩;rw [hQ.out];clear hA ai hf hm vE;obtain ⟨N,hN⟩:=Haa vs.length;obtain ⟨M,hM⟩:=Haa ws.length;rw [hN.out,hM.out]at aX q0 q1 q2 q3 aJ⊢;rw [hN.out]at yM hvl;rw [hM.out]at CZ;clear hw;obtain ⟨G,hG⟩:=Haa w.heap.size
 have HC:Hid (∀W W':World,Below W.heap.size W W'->G<W.heap.size->(W.cell? ⟨G,0,none⟩=some (.slice a1 N c1)/\W.cell? ⟨G,1,none⟩=some (.slice a2 M c2)/\W.cell? ⟨G,2,none⟩=some (.int .i64 tk)/\W.cell? ⟨G,3,none⟩=some (.int .i64 dr))->(W'.cell? ⟨G,0,none⟩=some (.slice a1 N c1)/\W'.cell? ⟨G,1,none⟩=some (.slice a2 M c2)/\W'.cell? ⟨G,2,none⟩=some (.int .i64 tk)/\W'.cell? ⟨G,3,none⟩=some (.int .i64 dr))):=hd (fun W W' hb hl h=>by
  rw [hb.cell (p:=⟨G,0,none⟩) hl,hb.cell (p:=⟨G,1,none⟩) hl,hb.cell (p:=⟨G,2,none⟩) hl,hb.cell (p:=⟨G,3,none⟩) hl]
  exact h)
 go_enter func141,ntmps141;go_upto_region 5 with(first|(go_at_call 173;refine aJ.mono ?_;rintro e2 w2 ⟨rfl,b2⟩));rw [hG.out]at q0 q1 q2 q3⊢;have yQ:G<(w.alloc (.cells #[.slice a1 N c1,.slice a2 M c2,.int .i64 tk,.int .i64 dr] 147)).heap.size:=by simp [hG.out]
 obtain ⟨p0,p1,p2,p3⟩:=HC.out _ w2 b2 yQ ⟨q0,q1,q2,q3⟩;have bY:=hd (aX.out.trans (b2.mono aX.out.size));have iK:Hid (G<w2.heap.size):=hd (aam yQ b2.size);clear b2 q0 q1 q2 q3 aJ yQ aX;have iy:=yM w2.drew bY.out.drew;go_region_held3 (fun w'=>w'.cell? ⟨G,0,none⟩=some (.slice a1 N c1)/\w'.cell? ⟨G,1,none⟩=some (.slice a2 M c2)/\w'.cell? ⟨G,2,none⟩=some (.int .i64 tk)/\w'.cell? ⟨G,3,none⟩=some (.int .i64 dr)) (go_keep)
  (first
    |(go_at_call 174;refine iy.mono ?_;rintro e3 w3 ⟨g1,rfl,R3,H7,b3⟩
      have wV:=hd (bY.out.drew.trans (b3.mono bY.out.size))
      have AO:Hid (G<w3.heap.size):=hd (aam iK.out b3.size);obtain ⟨u0,u1,u2,u3⟩:=HC.out w2.drew w3 b3 iK.out ⟨p0,p1,p2,p3⟩;have kT:=CZ w3 wV.out;have eV:=hd R3;have WX:=hd H7
      clear R3 b3 H7)
    |(go_at_call 175;refine kT.mono ?_;rintro e4 w4 ⟨g2,rfl,R4,H_,b4⟩
      have G_:=hd (wV.out.trans (b4.mono wV.out.size));have AQ:Hid (G<w4.heap.size):=hd (aam AO.out b4.size);obtain ⟨v0,v1,v2,v3⟩:=HC.out w3 w4 b4 AO.out ⟨u0,u1,u2,u3⟩;have hnl4:G≠w4.heap.size:=Nat.ne_of_lt AQ.out;have WY:=hd (eV.out.below b4);have Yr:=hd R4;have W9:=hd H_
      clear R4 b4 H_))
 have qt:Hid (Q (.returned (.tuple #[.pointer (some ⟨w4.heap.size,0,none⟩),.int .i64 0])) (w4.alloc (.cells #[.int .i64 room,.slice (some ⟨g1,0,none⟩) N N,.slice (some ⟨g2,0,none⟩) M M,.int .i64 tk,.int .i64 dr] 283))):=hd (by
  rw [<-hQ.out,<-hN.out,<-hM.out];have h1:w.heap.size<=g1:=aai bY.out.size WX.out;have h2:g1<w3.heap.size:=eV.out.lt g1 rfl;have h3:w3.heap.size<=g2:=W9.out;have h4:=G_.out.size;have hL:=ln_new (T:=283) (s:=⟨room,vs,ws,tk,dr⟩) (c1:=vs.length) (c2:=ws.length) (by rw [hN.out];exact WY.out) (by rw [hM.out];exact Yr.out) (fun k hk e=>by cases hk;cases e;omega);refine ⟨_,_,rfl,hL.ln,fun k hk=> ?_,G_.out.alloc G_.out.size _⟩;rcases hk with rfl|hk|hk
  · exact h4
  · cases hk;exact h1
  · cases hk;simp only;omega)
 clear eV WY Yr WX W9 yM CZ iy kT v0 v1 v2 v3 u0 u1 u2 u3 p0 p1 p2 p3;go_wp2_with fail;exact qt.out
theorem join_w{n c:Nat}{xs:List Value}(hR:Row w 187 2 a n c xs){m c2:Nat}{ys:List Value}(hS:Rd w a2 ys)(hl:ys.length=m*2)(h1:∀u∈ys,u.oneCell'=true)(hn:n+m<=8000000000000):
 ∃a' c' w',(∀ty,(Builtin.append_ #[145,145] ty #[.slice a n c,.slice a2 m c2]).run prog w=.ok (.slice a' (n+m) c') w')/\
  Row w' 187 2 a' (n+m) c' (xs++ys)/\Mod (fun k=>ae a=some k) w w'/\(∀k,ae a'=some k->ae a=some k\/w.heap.size<=k):=by
 obtain ⟨i,i1,i2,i3,i4⟩:=info_parts VS;obtain ⟨a',c',w',k1,k2,k3,k4,_⟩:=mD (P:=prog) _ 145 187 i _ 2 16 underlying145 i1 i2 i3 i4 rfl hR (.slice a2 m c2) m ys (hS.src underlying145 hl (by decide) h1) (by unfold maxLen;omega) (by omega);exact ⟨a',c',w',k1,k2,k3,k4⟩
structure VZ(w w':World)(vs:List Int)(ws:List (Int×Int))(a1:Option Addr)(c1:Nat)(a2:Option Addr)(c2:Nat):Prop where
 Ag:Row w' 2 1 a1 vs.length c1 (iC vs)
 uZ:Row w' 187 2 a2 ws.length c2 (wC ws)
 n1:∀k,ae a1=some k->w.heap.size<=k
 n2:∀k,ae a2=some k->w.heap.size<=k
 ne:∀k,ae a2=some k->ae a1≠some k
 au:Below w.heap.size w w'
theorem Told.own{g1 g2:Nat}(h:Told w w' s g1 g2):VZ w w' s.vs s.ws (some ⟨g1,0,none⟩) s.vs.length (some ⟨g2,0,none⟩) s.ws.length:=
 ⟨h.Ag,h.uZ,fun k hk=>by cases hk;exact h.n1,fun k hk=>by cases hk;exact h.n2,fun k hk e=>by cases hk;cases e;exact h.ne rfl,h.au⟩
section
variable{w w':World} {t:TypeId} {G:Nat} {v0 v1 v2 v3:Value}
end
end Go.Proofs.YthopnfbjiifhhaaGreatDoor.aL
