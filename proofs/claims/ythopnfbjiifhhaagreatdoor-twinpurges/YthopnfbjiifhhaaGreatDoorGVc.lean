/- What Of leaves; a row of things that is filled, place by place. -/
import Derived.Test.YthopnfbjiifhhaaGreatDoorGVb
set_option maxHeartbeats 16000000
set_option maxRecDepth 100000
namespace Go.Proofs.YthopnfbjiifhhaaGreatDoor.View
open Go.RowKit Go.Proofs.Tryz
theorem Jo:(prog.info? 109).map (fun i=>(i.zero,i.size,i.bytes))=some (some (.agg #[.int .i64 0,.slice none 0 0,.int .i64 0,.int .i64 0,.slice none 0 0,.slice none 0 0]),6,96):=by kernel_rfl
theorem Jc:(prog.info? 115).map (fun i=>(i.zero,i.size,i.bytes))=some (some (.agg #[.int .i64 0,.int .i64 0,.int .i64 0,.int .i64 0,.int .i64 0,.int .i64 0,.int .i64 0,.int .i64 0,.int .i64 0,.int .i64 0,.int .i64 0,.int .i64 0,.bool false,.int .i64 0,.slice none 0 0]),15,136):=by kernel_rfl
theorem tF(t e:TypeId)(z:Value)(size bytes:Nat)(ht:prog.underlying t=some (.slice e))(hi:(prog.info? e).map (fun i=>(i.zero,i.size,i.bytes))=some (some z,size,bytes))(n:Nat)(hb:bytes*n<=281474976710656)(h63:n<=maxLen)(W:World):
 (Instr.makeSlice t (.int .i64 (n:Int)) (.int .i64 (n:Int))).run prog W=.ok (.slice (some ⟨W.heap.size,0,none⟩) n n) (W.alloc (.cells (madeCells z.cells (n*size)) e)):=by
 obtain ⟨i,h1,h2,h3,h4⟩:=info_parts hi;subst h3 h4;have xX:(n:Int)<=9223372036854775807:=by
  have h:=h63;simp [maxLen]at h;omega
 have eW:(i.bytes:Int)*(n:Int)<=281474976710656:=by
  have h:((i.bytes*n:Nat):Int)<=281474976710656:=by omega
  rwa [Int.natCast_mul]at h
 have hr:=run_make (P:=prog) W t e i z ht h1 h2 .i64 .i64 n n (by omega) (abe _) eW xX;simp only [Int.toNat_natCast]at hr;exact hr
theorem Vi(z:Array Value)(n j:Nat)(hj:j<n):el z.size (madeCells z (n*z.size)).toList j=z.toList:=by
 apply aaT;intro q;by_cases hq:q<z.size
 ·rw [Cq _ _ _ _ hq];have h2:j*z.size+q<n*z.size:=by
   have:=aaI z.size (show j+1<=n from hj);rw [abr]at this;omega
  have h3:(j*z.size+q)% z.size=q:=by
   rw [abF,Nat.mul_add_mod,Nat.mod_eq_of_lt hq]
  unfold madeCells;simp [h2,h3,hq]
 ·have h1:(el z.size (madeCells z (n*z.size)).toList j)[q]?=none:=by unfold el;rw [aaO,aaf hq]
  rw [h1,aas (by simpa using hq)]
structure GI{α:Type}[Inhabited α](T:TypeId)(sz:Nat)(E:Nat->Nat->World->List Value->α->Prop)(zs:List Value)(W1:World)(P n:Nat)(xs:List α)(i:Nat)(wr:World):Prop where
 ex:∃(L:List Value) (b:Nat->Nat),Row wr T sz (some ⟨P,0,none⟩) n n L/\b 0=W1.heap.size/\b i=wr.heap.size/\(∀j,j<i->b j<=b (j+1))/\(∀j,j<i->E (b j) (b (j+1)) wr (el sz L j) (xs.getD j default))/\(∀j,i<=j->j<n->el sz L j=zs)
 md:Mod (fun k=>k=P) W1 wr
 lt:P<W1.heap.size
section
variable{α:Type} [Inhabited α] {T:TypeId} {sz:Nat} {E:Nat->Nat->World->List Value->α->Prop} {zs:List Value} {W1 wr wa wb w2 F:World} {P n i:Nat} {xs:List α} {cs:List Value}
theorem GI.next(h:GI T sz E zs W1 P n xs i wr)(hk:∀lo hi w w' cs x,(∀k,lo<=k->k<hi->w'.heap[k]?=w.heap[k]?)->E lo hi w cs x->E lo hi w' cs x)
 (hs:wr.heap.size<=F.heap.size)(hF:∀k,k≠P->k<wr.heap.size->F.heap[k]?=wr.heap[k]?)(ho:F.os=wr.os)(ht:F.tape=wr.tape)(hu:F.output=wr.output)
 (bI:∀L,Row wr T sz (some ⟨P,0,none⟩) n n L->(∀j,i<=j->j<n->el sz L j=zs)->∃L',Row F T sz (some ⟨P,0,none⟩) n n L'/\(∀j,j≠i->el sz L' j=el sz L j)/\E wr.heap.size F.heap.size F (el sz L' i) (xs.getD i default)):GI T sz E zs W1 P n xs (i+1) F:=by
 obtain ⟨⟨L,b,r1,r2,r3,r4,r5,r6⟩,kX,af⟩:=h;obtain ⟨L',q1,q2,q3⟩:=bI L r1 r6;have jy:=pM i r4;have cD:W1.heap.size<=wr.heap.size:=kX.size;refine ⟨⟨L',fun j=>if j<=i then b j else F.heap.size,q1,by simpa using r2,by show(if i+1<=i then b (i+1)else F.heap.size)=_;rw [aaf (by omega)],fun j hj=> ?_,fun j hj=> ?_,fun j hj uo=>by rw [q2 j (by omega)];exact r6 j (by omega) uo⟩, ?_,af⟩
 ·by_cases e:j=i
  ·subst e;simp only [Nat.le_refl,if_true];rw [aaf (by omega),r3];exact hs
  ·have h1:j<=i:=by omega
   have h2:j+1<=i:=by omega
   simp only [h1,h2,if_true];exact r4 j (by omega)
 ·by_cases e:j=i
  ·subst e;simp only [Nat.le_refl,if_true];rw [aaf (by omega),r3];exact q3
  ·have h1:j<=i:=by omega
   have h2:j+1<=i:=by omega
   simp only [h1,h2,if_true];rw [q2 j e];have qn:=jy j h1;have sG:=jy (j+1) h2;exact hk _ _ _ _ _ _ (fun k l1 l2=>hF k (by omega) (by omega)) (r5 j (by omega))
 ·exact kX.trans (S':=fun k=>k=P) ⟨ho,ht,hu,hs,fun k mJ bk=>hF k bk mJ⟩ (fun k hk=> .inl hk)
theorem GI.skip(h:GI T sz E zs W1 P n xs i wr)(hi:i<n)(hk:∀lo hi w w' cs x,(∀k,lo<=k->k<hi->w'.heap[k]?=w.heap[k]?)->E lo hi w cs x->E lo hi w' cs x)(hb:Below wr.heap.size wr wa)(hE:E wr.heap.size wa.heap.size wa zs (xs.getD i default)):GI T sz E zs W1 P n xs (i+1) wa:=
 h.next hk hb.size (fun k _ k2=>hb.block k k2) hb.os hb.tape hb.output fun L r1 r6=>⟨L,r1.below hb,fun _ _=>rfl,by rw [r6 i (aag _) hi];exact hE⟩
end
variable{w W1 wr wb w2:World}{T:TypeId}{n cap g i lo hi Bj P:Nat}{L:List Value}{v0 v1 v2 v3 v4 v5:Value}
theorem row_fill6(h:Row w T 6 (some ⟨g,0,none⟩) n cap L)(hi:i<n)(v0 v1 v2 v3 v4 v5:Value):∃L',Row ((((((w.setCell ⟨g,i*6,none⟩ v0).setCell ⟨g,i*6+1,none⟩ v1).setCell ⟨g,i*6+2,none⟩ v2).setCell ⟨g,i*6+3,none⟩ v3).setCell ⟨g,i*6+4,none⟩ v4).setCell ⟨g,i*6+5,none⟩ v5) T 6 (some ⟨g,0,none⟩) n cap L'/\(∀j,j≠i->el 6 L' j=el 6 L j)/\el 6 L' i=[v0,v1,v2,v3,v4,v5]:=by
 obtain ⟨g0,e0,h0,-,-⟩:=jU h (i*6) (by omega) v0
 cases e0
 obtain ⟨g1,e1,h1,-,-⟩:=jU h0 (i*6+1) (by omega) v1
 cases e1
 obtain ⟨g2,e2,h2,-,-⟩:=jU h1 (i*6+2) (by omega) v2
 cases e2
 obtain ⟨g3,e3,h3,-,-⟩:=jU h2 (i*6+3) (by omega) v3
 cases e3
 obtain ⟨g4,e4,h4,-,-⟩:=jU h3 (i*6+4) (by omega) v4
 cases e4
 obtain ⟨g5,e5,h5,-,-⟩:=jU h4 (i*6+5) (by omega) v5
 cases e5
 refine ⟨_,h5,fun j hj=> ?_, ?_⟩
 ·rw [dJ (sz:=6) (r:=5) (by decide),aaf hj];rw [dJ (sz:=6) (r:=4) (by decide),aaf hj];rw [dJ (sz:=6) (r:=3) (by decide),aaf hj];rw [dJ (sz:=6) (r:=2) (by decide),aaf hj];rw [dJ (sz:=6) (r:=1) (by decide),aaf hj];have:=dJ (sz:=6) (L:=L) (i:=i) (j:=j) (r:=0) (v:=v0) (by decide);rw [aa8]at this;rw [this,aaf hj]
 ·rw [dJ (sz:=6) (r:=5) (by decide),aah rfl];rw [dJ (sz:=6) (r:=4) (by decide),aah rfl];rw [dJ (sz:=6) (r:=3) (by decide),aah rfl];rw [dJ (sz:=6) (r:=2) (by decide),aah rfl];rw [dJ (sz:=6) (r:=1) (by decide),aah rfl];have:=dJ (sz:=6) (L:=L) (i:=i) (j:=i) (r:=0) (v:=v0) (by decide);rw [aa8]at this;rw [this,aah rfl];have hl:=Ou (sz:=6) (L:=L) h.len hi;generalize el 6 L i=M at*
  match M,hl with
  |[x0,x1,x2,x3,x4,x5],_=>rfl
theorem fill6_other(w:World)(g i:Nat)(v0 v1 v2 v3 v4 v5:Value):((((((w.setCell ⟨g,i*6,none⟩ v0).setCell ⟨g,i*6+1,none⟩ v1).setCell ⟨g,i*6+2,none⟩ v2).setCell ⟨g,i*6+3,none⟩ v3).setCell ⟨g,i*6+4,none⟩ v4).setCell ⟨g,i*6+5,none⟩ v5).heap.size=w.heap.size/\(((((((w.setCell ⟨g,i*6,none⟩ v0).setCell ⟨g,i*6+1,none⟩ v1).setCell ⟨g,i*6+2,none⟩ v2).setCell ⟨g,i*6+3,none⟩ v3).setCell ⟨g,i*6+4,none⟩ v4).setCell ⟨g,i*6+5,none⟩ v5).os=w.os/\((((((w.setCell ⟨g,i*6,none⟩ v0).setCell ⟨g,i*6+1,none⟩ v1).setCell ⟨g,i*6+2,none⟩ v2).setCell ⟨g,i*6+3,none⟩ v3).setCell ⟨g,i*6+4,none⟩ v4).setCell ⟨g,i*6+5,none⟩ v5).tape=w.tape/\((((((w.setCell ⟨g,i*6,none⟩ v0).setCell ⟨g,i*6+1,none⟩ v1).setCell ⟨g,i*6+2,none⟩ v2).setCell ⟨g,i*6+3,none⟩ v3).setCell ⟨g,i*6+4,none⟩ v4).setCell ⟨g,i*6+5,none⟩ v5).output=w.output)/\∀k,k≠g->((((((w.setCell ⟨g,i*6,none⟩ v0).setCell ⟨g,i*6+1,none⟩ v1).setCell ⟨g,i*6+2,none⟩ v2).setCell ⟨g,i*6+3,none⟩ v3).setCell ⟨g,i*6+4,none⟩ v4).setCell ⟨g,i*6+5,none⟩ v5).heap[k]?=w.heap[k]?:=by
 have hb:Below 0 w ((((((w.setCell ⟨g,i*6,none⟩ v0).setCell ⟨g,i*6+1,none⟩ v1).setCell ⟨g,i*6+2,none⟩ v2).setCell ⟨g,i*6+3,none⟩ v3).setCell ⟨g,i*6+4,none⟩ v4).setCell ⟨g,i*6+5,none⟩ v5):=(dx (dx (dx (dx (dx (dx (aak 0 w) (aaq _)) (aaq _)) (aaq _)) (aaq _)) (aaq _)) (aaq _));exact ⟨by simp only [rP],⟨hb.os,hb.tape,hb.output⟩,fun k hk=>by simp only [kN _ _ _ _ _ hk]⟩
theorem row_fill15(h:Row w T 15 (some ⟨g,0,none⟩) n cap L)(hi:i<n)(v0 v1 v2 v3 v4 v5 v6 v7 v8 v9 v10 v11 v12 v13 v14:Value):∃L',Row (((((((((((((((w.setCell ⟨g,i*15,none⟩ v0).setCell ⟨g,i*15+1,none⟩ v1).setCell ⟨g,i*15+2,none⟩ v2).setCell ⟨g,i*15+3,none⟩ v3).setCell ⟨g,i*15+4,none⟩ v4).setCell ⟨g,i*15+5,none⟩ v5).setCell ⟨g,i*15+6,none⟩ v6).setCell ⟨g,i*15+7,none⟩ v7).setCell ⟨g,i*15+8,none⟩ v8).setCell ⟨g,i*15+9,none⟩ v9).setCell ⟨g,i*15+10,none⟩ v10).setCell ⟨g,i*15+11,none⟩ v11).setCell ⟨g,i*15+12,none⟩ v12).setCell ⟨g,i*15+13,none⟩ v13).setCell ⟨g,i*15+14,none⟩ v14) T 15 (some ⟨g,0,none⟩) n cap L'/\(∀j,j≠i->el 15 L' j=el 15 L j)/\el 15 L' i=[v0,v1,v2,v3,v4,v5,v6,v7,v8,v9,v10,v11,v12,v13,v14]:=by
 obtain ⟨g0,e0,h0,-,-⟩:=jU h (i*15) (by omega) v0
 cases e0
 obtain ⟨g1,e1,h1,-,-⟩:=jU h0 (i*15+1) (by omega) v1
 cases e1
 obtain ⟨g2,e2,h2,-,-⟩:=jU h1 (i*15+2) (by omega) v2
 cases e2
 obtain ⟨g3,e3,h3,-,-⟩:=jU h2 (i*15+3) (by omega) v3
 cases e3
 obtain ⟨g4,e4,h4,-,-⟩:=jU h3 (i*15+4) (by omega) v4
 cases e4
 obtain ⟨g5,e5,h5,-,-⟩:=jU h4 (i*15+5) (by omega) v5
 cases e5
 obtain ⟨g6,e6,h6,-,-⟩:=jU h5 (i*15+6) (by omega) v6
 cases e6
 obtain ⟨g7,e7,h7,-,-⟩:=jU h6 (i*15+7) (by omega) v7
 cases e7
 obtain ⟨g8,e8,h8,-,-⟩:=jU h7 (i*15+8) (by omega) v8
 cases e8
 obtain ⟨g9,e9,h9,-,-⟩:=jU h8 (i*15+9) (by omega) v9
 cases e9
 obtain ⟨g10,II,h10,-,-⟩:=jU h9 (i*15+10) (by omega) v10
 cases II
 obtain ⟨g11,IJ,h11,-,-⟩:=jU h10 (i*15+11) (by omega) v11
 cases IJ
 obtain ⟨g12,L6,h12,-,-⟩:=jU h11 (i*15+12) (by omega) v12
 cases L6
 obtain ⟨g13,L7,h13,-,-⟩:=jU h12 (i*15+13) (by omega) v13
 cases L7
 obtain ⟨g14,L8,h14,-,-⟩:=jU h13 (i*15+14) (by omega) v14
 cases L8
 refine ⟨_,h14,fun j hj=> ?_, ?_⟩
 ·rw [dJ (sz:=15) (r:=14) (by decide),aaf hj];rw [dJ (sz:=15) (r:=13) (by decide),aaf hj];rw [dJ (sz:=15) (r:=12) (by decide),aaf hj];rw [dJ (sz:=15) (r:=11) (by decide),aaf hj];rw [dJ (sz:=15) (r:=10) (by decide),aaf hj];rw [dJ (sz:=15) (r:=9) (by decide),aaf hj];rw [dJ (sz:=15) (r:=8) (by decide),aaf hj];rw [dJ (sz:=15) (r:=7) (by decide),aaf hj];rw [dJ (sz:=15) (r:=6) (by decide),aaf hj];rw [dJ (sz:=15) (r:=5) (by decide),aaf hj];rw [dJ (sz:=15) (r:=4) (by decide),aaf hj];rw [dJ (sz:=15) (r:=3) (by decide),aaf hj];rw [dJ (sz:=15) (r:=2) (by decide),aaf hj];rw [dJ (sz:=15) (r:=1) (by decide),aaf hj];have:=dJ (sz:=15) (L:=L) (i:=i) (j:=j) (r:=0) (v:=v0) (by decide);rw [aa8]at this;rw [this,aaf hj]
 ·rw [dJ (sz:=15) (r:=14) (by decide),aah rfl];rw [dJ (sz:=15) (r:=13) (by decide),aah rfl];rw [dJ (sz:=15) (r:=12) (by decide),aah rfl];rw [dJ (sz:=15) (r:=11) (by decide),aah rfl];rw [dJ (sz:=15) (r:=10) (by decide),aah rfl];rw [dJ (sz:=15) (r:=9) (by decide),aah rfl];rw [dJ (sz:=15) (r:=8) (by decide),aah rfl];rw [dJ (sz:=15) (r:=7) (by decide),aah rfl];rw [dJ (sz:=15) (r:=6) (by decide),aah rfl];rw [dJ (sz:=15) (r:=5) (by decide),aah rfl];rw [dJ (sz:=15) (r:=4) (by decide),aah rfl];rw [dJ (sz:=15) (r:=3) (by decide),aah rfl];rw [dJ (sz:=15) (r:=2) (by decide),aah rfl];rw [dJ (sz:=15) (r:=1) (by decide),aah rfl];have:=dJ (sz:=15) (L:=L) (i:=i) (j:=i) (r:=0) (v:=v0) (by decide);rw [aa8]at this;rw [this,aah rfl];have hl:=Ou (sz:=15) (L:=L) h.len hi;generalize el 15 L i=M at*
  match M,hl with
  |[x0,x1,x2,x3,x4,x5,x6,x7,x8,x9,rl,x11,KV,x13,Ih],_=>rfl
theorem fill15_other(w:World)(g i:Nat)(v0 v1 v2 v3 v4 v5 v6 v7 v8 v9 v10 v11 v12 v13 v14:Value):(((((((((((((((w.setCell ⟨g,i*15,none⟩ v0).setCell ⟨g,i*15+1,none⟩ v1).setCell ⟨g,i*15+2,none⟩ v2).setCell ⟨g,i*15+3,none⟩ v3).setCell ⟨g,i*15+4,none⟩ v4).setCell ⟨g,i*15+5,none⟩ v5).setCell ⟨g,i*15+6,none⟩ v6).setCell ⟨g,i*15+7,none⟩ v7).setCell ⟨g,i*15+8,none⟩ v8).setCell ⟨g,i*15+9,none⟩ v9).setCell ⟨g,i*15+10,none⟩ v10).setCell ⟨g,i*15+11,none⟩ v11).setCell ⟨g,i*15+12,none⟩ v12).setCell ⟨g,i*15+13,none⟩ v13).setCell ⟨g,i*15+14,none⟩ v14).heap.size=w.heap.size/\((((((((((((((((w.setCell ⟨g,i*15,none⟩ v0).setCell ⟨g,i*15+1,none⟩ v1).setCell ⟨g,i*15+2,none⟩ v2).setCell ⟨g,i*15+3,none⟩ v3).setCell ⟨g,i*15+4,none⟩ v4).setCell ⟨g,i*15+5,none⟩ v5).setCell ⟨g,i*15+6,none⟩ v6).setCell ⟨g,i*15+7,none⟩ v7).setCell ⟨g,i*15+8,none⟩ v8).setCell ⟨g,i*15+9,none⟩ v9).setCell ⟨g,i*15+10,none⟩ v10).setCell ⟨g,i*15+11,none⟩ v11).setCell ⟨g,i*15+12,none⟩ v12).setCell ⟨g,i*15+13,none⟩ v13).setCell ⟨g,i*15+14,none⟩ v14).os=w.os/\(((((((((((((((w.setCell ⟨g,i*15,none⟩ v0).setCell ⟨g,i*15+1,none⟩ v1).setCell ⟨g,i*15+2,none⟩ v2).setCell ⟨g,i*15+3,none⟩ v3).setCell ⟨g,i*15+4,none⟩ v4).setCell ⟨g,i*15+5,none⟩ v5).setCell ⟨g,i*15+6,none⟩ v6).setCell ⟨g,i*15+7,none⟩ v7).setCell ⟨g,i*15+8,none⟩ v8).setCell ⟨g,i*15+9,none⟩ v9).setCell ⟨g,i*15+10,none⟩ v10).setCell ⟨g,i*15+11,none⟩ v11).setCell ⟨g,i*15+12,none⟩ v12).setCell ⟨g,i*15+13,none⟩ v13).setCell ⟨g,i*15+14,none⟩ v14).tape=w.tape/\(((((((((((((((w.setCell ⟨g,i*15,none⟩ v0).setCell ⟨g,i*15+1,none⟩ v1).setCell ⟨g,i*15+2,none⟩ v2).setCell ⟨g,i*15+3,none⟩ v3).setCell ⟨g,i*15+4,none⟩ v4).setCell ⟨g,i*15+5,none⟩ v5).setCell ⟨g,i*15+6,none⟩ v6).setCell ⟨g,i*15+7,none⟩ v7).setCell ⟨g,i*15+8,none⟩ v8).setCell ⟨g,i*15+9,none⟩ v9).setCell ⟨g,i*15+10,none⟩ v10).setCell ⟨g,i*15+11,none⟩ v11).setCell ⟨g,i*15+12,none⟩ v12).setCell ⟨g,i*15+13,none⟩ v13).setCell ⟨g,i*15+14,none⟩ v14).output=w.output)/\∀k,k≠g->(((((((((((((((w.setCell ⟨g,i*15,none⟩ v0).setCell ⟨g,i*15+1,none⟩ v1).setCell ⟨g,i*15+2,none⟩ v2).setCell ⟨g,i*15+3,none⟩ v3).setCell ⟨g,i*15+4,none⟩ v4).setCell ⟨g,i*15+5,none⟩ v5).setCell ⟨g,i*15+6,none⟩ v6).setCell ⟨g,i*15+7,none⟩ v7).setCell ⟨g,i*15+8,none⟩ v8).setCell ⟨g,i*15+9,none⟩ v9).setCell ⟨g,i*15+10,none⟩ v10).setCell ⟨g,i*15+11,none⟩ v11).setCell ⟨g,i*15+12,none⟩ v12).setCell ⟨g,i*15+13,none⟩ v13).setCell ⟨g,i*15+14,none⟩ v14).heap[k]?=w.heap[k]?:=by
 have hb:Below 0 w (((((((((((((((w.setCell ⟨g,i*15,none⟩ v0).setCell ⟨g,i*15+1,none⟩ v1).setCell ⟨g,i*15+2,none⟩ v2).setCell ⟨g,i*15+3,none⟩ v3).setCell ⟨g,i*15+4,none⟩ v4).setCell ⟨g,i*15+5,none⟩ v5).setCell ⟨g,i*15+6,none⟩ v6).setCell ⟨g,i*15+7,none⟩ v7).setCell ⟨g,i*15+8,none⟩ v8).setCell ⟨g,i*15+9,none⟩ v9).setCell ⟨g,i*15+10,none⟩ v10).setCell ⟨g,i*15+11,none⟩ v11).setCell ⟨g,i*15+12,none⟩ v12).setCell ⟨g,i*15+13,none⟩ v13).setCell ⟨g,i*15+14,none⟩ v14):=(dx (dx (dx (dx (dx (dx (dx (dx (dx (dx (dx (dx (dx (dx (dx (aak 0 w) (aaq _)) (aaq _)) (aaq _)) (aaq _)) (aaq _)) (aaq _)) (aaq _)) (aaq _)) (aaq _)) (aaq _)) (aaq _)) (aaq _)) (aaq _)) (aaq _)) (aaq _));exact ⟨by simp only [rP],⟨hb.os,hb.tape,hb.output⟩,fun k hk=>by simp only [kN _ _ _ _ _ hk]⟩
def sO(lo hi:Nat)(w:World)(cs:List Value)(x:tz):Prop:=∃(a1:Option Addr) (c1:Nat) (L1:List Value) (b1:Nat->Nat) (a2:Option Addr) (c2:Nat) (L2:List Value) (b2:Nat->Nat),cs=[.int .i64 x.tk,.slice a1 x.ps.length c1,.slice a2 x.qs.length c2]/\Row w 109 6 a1 x.ps.length c1 L1/\Row w 115 15 a2 x.qs.length c2 L2/\
 (∀k,ae a1=some k->lo<=k/\k<b1 0/\ae a2≠some k)/\(∀k,ae a2=some k->lo<=k/\k<b1 0)/\lo<=b1 0/\(∀i,i<x.ps.length->b1 i<=b1 (i+1))/\b1 x.ps.length<=b2 0/\(∀i,i<x.qs.length->b2 i<=b2 (i+1))/\b2 x.qs.length<=hi/\x.ps.length<=iD/\x.qs.length<=iD/\
 (∀i,i<x.ps.length->pO (b1 i) (b1 (i+1)) w (el 6 L1 i) (x.ps.getD i default))/\(∀i,i<x.qs.length->rO (b2 i) (b2 (i+1)) w (el 15 L2 i) (x.qs.getD i default))
theorem sO.rd{cs:List Value}{x:tz}(h:sO lo hi w cs x):sE w cs x:=by
 obtain ⟨a1,c1,L1,b1,a2,c2,L2,b2,e,r1,r2,n1,n2,l1,m1,l2,m2,l3,B1,B2,h1,h2⟩:=h;have di:=pM _ m1;have cO:=pM _ m2;have k1:gQ 109 6 pO lo (b1 x.ps.length) w (.slice a1 x.ps.length c1) x.ps:=⟨a1,c1,L1,b1,rfl,r1,fun k hk=>⟨(n1 k hk).1,(n1 k hk).2.1⟩,l1,m1,aag _,B1,h1⟩;have k2:gQ 115 15 rO lo hi w (.slice a2 x.qs.length c2) x.qs:=⟨a2,c2,L2,b2,rfl,r2,fun k hk=>⟨(n2 k hk).1,by have:=(n2 k hk).2;have:=(di x.ps.length (aag _)).1;omega⟩,by have:=(di x.ps.length (aag _)).1;omega,m2,l3,B2,h2⟩;exact ⟨_,_,e,k1.rd fun _ _ _ _ h=>h.rd,k2.rd fun _ _ _ _ h=>h.rd⟩
def WB(x:tz):Prop:=x.ps.length<=1048576/\x.qs.length<=1048576/\(∀j,OW (x.ps.getD j default))/\∀j,OX (x.qs.getD j default)
def Kc(w:World)(x:tz)(e:Ending)(w':World):Prop:=∃cs,e=.returned (.agg cs.toArray)/\sO w.heap.size w'.heap.size w' cs x/\Below w.heap.size w w'
theorem pO.low{cs:List Value}{x:og}(h:pO lo hi w cs x)(hl:Bj<=lo):pO Bj hi w cs x:=by
 obtain ⟨v1,v4,v5,m1,m2,e,di,cO,mr,h1,h2,h3⟩:=h;exact ⟨v1,v4,v5,m1,m2,e,by omega,cO,mr,h1.wide hl (aag _),h2,h3⟩
theorem rO.low{cs:List Value}{x:n_}(h:rO lo hi w cs x)(hl:Bj<=lo):rO Bj hi w cs x:=by
 obtain ⟨v,e,h1⟩:=h;exact ⟨v,e,h1.wide hl (aag _)⟩
def Bw:List Value:=[.int .i64 0,.slice none 0 0,.int .i64 0,.int .i64 0,.slice none 0 0,.slice none 0 0]
def Bx:List Value:=[.int .i64 0,.int .i64 0,.int .i64 0,.int .i64 0,.int .i64 0,.int .i64 0,.int .i64 0,.int .i64 0,.int .i64 0,.int .i64 0,.int .i64 0,.int .i64 0,.bool false,.int .i64 0,.slice none 0 0]
theorem pO.zero(h:lo<=hi)(w:World):pO lo hi w Bw mz:=⟨_,_,_,lo,lo,rfl,aag _,aag _,h,gQ.nil (aag _),gQ.nil (aag _),gQ.nil h⟩
theorem rO.zero(h:lo<=hi)(w:World):rO lo hi w Bx pz:=⟨_,rfl,gQ.nil h⟩
theorem js(w:World)(o1 o2 o3:Obj):(((w.alloc o1).alloc o2).alloc o3).heap[w.heap.size]?=some o1/\(((w.alloc o1).alloc o2).alloc o3).heap[w.heap.size+1]?=some o2/\(((w.alloc o1).alloc o2).alloc o3).heap[w.heap.size+2]?=some o3/\(((w.alloc o1).alloc o2).alloc o3).heap.size=w.heap.size+3/\Below w.heap.size w (((w.alloc o1).alloc o2).alloc o3):=by
 have s1:(w.alloc o1).heap.size=w.heap.size+1:=by simp
 have s2:((w.alloc o1).alloc o2).heap.size=w.heap.size+2:=by simp
 have h1:=aae w o1;have h2:=aae (w.alloc o1) o2;have h3:=aae ((w.alloc o1).alloc o2) o3;rw [s1]at h2;rw [s2]at h3;have b2:=aA (w.alloc o1) o2;have b3:=aA ((w.alloc o1).alloc o2) o3;exact ⟨((b3.block _ (by omega)).trans (b2.block _ (by omega))).trans h1,(b3.block _ (by omega)).trans h2,h3,by simp,((aA w o1).alloc (by omega) o2).alloc (by omega) o3⟩
theorem GI.put6{xs:List og}(h:GI 109 6 pO Bw W1 P n xs i wr)(hi:i<n)(hb:Below wr.heap.size wr wb)(h2:Below wb.heap.size wb w2)(hp:pO wb.heap.size w2.heap.size w2 [v0,v1,v2,v3,v4,v5] (xs.getD i default)):
 GI 109 6 pO Bw W1 P n xs (i+1) ((((((w2.setCell ⟨P,i*6,none⟩ v0).setCell ⟨P,i*6+1,none⟩ v1).setCell ⟨P,i*6+2,none⟩ v2).setCell ⟨P,i*6+3,none⟩ v3).setCell ⟨P,i*6+4,none⟩ v4).setCell ⟨P,i*6+5,none⟩ v5)/\((∃u,w2.cell? ⟨P,i*6,none⟩=some u)/\(∃u,w2.cell? ⟨P,i*6+1,none⟩=some u)/\(∃u,w2.cell? ⟨P,i*6+2,none⟩=some u)/\(∃u,w2.cell? ⟨P,i*6+3,none⟩=some u)/\(∃u,w2.cell? ⟨P,i*6+4,none⟩=some u)/\(∃u,w2.cell? ⟨P,i*6+5,none⟩=some u))/\∀j,w2.frozen? ⟨P,j,none⟩=false:=by
 have af:=h.lt;have ia:=h.md.size;have fZ:=hb.trans (h2.mono hb.size);have hex:∀j,j<6->∃u,w2.cell? ⟨P,i*6+j,none⟩=some u:=fun j hj=>by
  obtain ⟨⟨L,b,r1,-⟩,-,-⟩:=h;obtain ⟨g,e,h1⟩:=(r1.below fZ).cell (i*6+j) (by omega)
  cases e
  rw [h1];exact ⟨_,aad (by rw [r1.len];omega)⟩
 have Fk:∀j,w2.frozen? ⟨P,j,none⟩=false:=fun j=>by
  obtain ⟨⟨L,b,r1,-⟩,-,-⟩:=h;exact (r1.below fZ).free j P rfl
 obtain ⟨f1,⟨f2,f3,f4⟩,f5⟩:=fill6_other w2 P i v0 v1 v2 v3 v4 v5;refine ⟨h.next (fun _ _ _ _ _ _ hk h=>h.kept hk) (by rw [f1];exact fZ.size) (fun k k1 k2=>by rw [f5 k k1];exact fZ.block k k2) (by rw [f2];exact fZ.os) (by rw [f3];exact fZ.tape) (by rw [f4];exact fZ.output) (fun L r1 _=> ?_),⟨hex 0 (by decide),hex 1 (by decide),hex 2 (by decide),hex 3 (by decide),hex 4 (by decide),hex 5 (by decide)⟩,Fk⟩;obtain ⟨L',q1,q2,q3⟩:=row_fill6 (r1.below fZ) hi v0 v1 v2 v3 v4 v5;refine ⟨L',q1,q2, ?_⟩;rw [q3,f1];exact (hp.kept (fun k k1 k2=>f5 k (by have:=hb.size;omega))).low hb.size
theorem GI.put15{xs:List n_}{v6 v7 v8 v9 v10 v11 v12 v13 v14:Value}(h:GI 115 15 rO Bx W1 P n xs i wr)(hi:i<n)(hb:Below wr.heap.size wr wb)(h2:Below wb.heap.size wb w2)(hp:rO wb.heap.size w2.heap.size w2 [v0,v1,v2,v3,v4,v5,v6,v7,v8,v9,v10,v11,v12,v13,v14] (xs.getD i default)):
 GI 115 15 rO Bx W1 P n xs (i+1) (((((((((((((((w2.setCell ⟨P,i*15,none⟩ v0).setCell ⟨P,i*15+1,none⟩ v1).setCell ⟨P,i*15+2,none⟩ v2).setCell ⟨P,i*15+3,none⟩ v3).setCell ⟨P,i*15+4,none⟩ v4).setCell ⟨P,i*15+5,none⟩ v5).setCell ⟨P,i*15+6,none⟩ v6).setCell ⟨P,i*15+7,none⟩ v7).setCell ⟨P,i*15+8,none⟩ v8).setCell ⟨P,i*15+9,none⟩ v9).setCell ⟨P,i*15+10,none⟩ v10).setCell ⟨P,i*15+11,none⟩ v11).setCell ⟨P,i*15+12,none⟩ v12).setCell ⟨P,i*15+13,none⟩ v13).setCell ⟨P,i*15+14,none⟩ v14)/\((∃u,w2.cell? ⟨P,i*15,none⟩=some u)/\(∃u,w2.cell? ⟨P,i*15+1,none⟩=some u)/\(∃u,w2.cell? ⟨P,i*15+2,none⟩=some u)/\(∃u,w2.cell? ⟨P,i*15+3,none⟩=some u)/\(∃u,w2.cell? ⟨P,i*15+4,none⟩=some u)/\(∃u,w2.cell? ⟨P,i*15+5,none⟩=some u)/\(∃u,w2.cell? ⟨P,i*15+6,none⟩=some u)/\(∃u,w2.cell? ⟨P,i*15+7,none⟩=some u)/\(∃u,w2.cell? ⟨P,i*15+8,none⟩=some u)/\(∃u,w2.cell? ⟨P,i*15+9,none⟩=some u)/\(∃u,w2.cell? ⟨P,i*15+10,none⟩=some u)/\(∃u,w2.cell? ⟨P,i*15+11,none⟩=some u)/\(∃u,w2.cell? ⟨P,i*15+12,none⟩=some u)/\(∃u,w2.cell? ⟨P,i*15+13,none⟩=some u)/\(∃u,w2.cell? ⟨P,i*15+14,none⟩=some u))/\∀j,w2.frozen? ⟨P,j,none⟩=false:=by
 have af:=h.lt;have ia:=h.md.size;have fZ:=hb.trans (h2.mono hb.size);have hex:∀j,j<15->∃u,w2.cell? ⟨P,i*15+j,none⟩=some u:=fun j hj=>by
  obtain ⟨⟨L,b,r1,-⟩,-,-⟩:=h;obtain ⟨g,e,h1⟩:=(r1.below fZ).cell (i*15+j) (by omega)
  cases e
  rw [h1];exact ⟨_,aad (by rw [r1.len];omega)⟩
 have Fk:∀j,w2.frozen? ⟨P,j,none⟩=false:=fun j=>by
  obtain ⟨⟨L,b,r1,-⟩,-,-⟩:=h;exact (r1.below fZ).free j P rfl
 obtain ⟨f1,⟨f2,f3,f4⟩,f5⟩:=fill15_other w2 P i v0 v1 v2 v3 v4 v5 v6 v7 v8 v9 v10 v11 v12 v13 v14;refine ⟨h.next (fun _ _ _ _ _ _ hk h=>h.kept hk) (by rw [f1];exact fZ.size) (fun k k1 k2=>by rw [f5 k k1];exact fZ.block k k2) (by rw [f2];exact fZ.os) (by rw [f3];exact fZ.tape) (by rw [f4];exact fZ.output) (fun L r1 _=> ?_),⟨hex 0 (by decide),hex 1 (by decide),hex 2 (by decide),hex 3 (by decide),hex 4 (by decide),hex 5 (by decide),hex 6 (by decide),hex 7 (by decide),hex 8 (by decide),hex 9 (by decide),hex 10 (by decide),hex 11 (by decide),hex 12 (by decide),hex 13 (by decide),hex 14 (by decide)⟩,Fk⟩;obtain ⟨L',q1,q2,q3⟩:=row_fill15 (r1.below fZ) hi v0 v1 v2 v3 v4 v5 v6 v7 v8 v9 v10 v11 v12 v13 v14;refine ⟨L',q1,q2, ?_⟩;rw [q3,f1];exact (hp.kept (fun k k1 k2=>f5 k (by have:=hb.size;omega))).low hb.size
structure OS(W0 wy:World)(tk:Int)(np nq gs P Q:Nat):Prop where
 box:wy.heap[gs]?=some (.cells #[.int .i64 tk,.slice (some ⟨P,0,none⟩) np np,.slice (some ⟨Q,0,none⟩) nq nq] 78 (0,0))
 rp:∃L,Row wy 109 6 (some ⟨P,0,none⟩) np np L/\∀j,j<np->el 6 L j=Bw
 rq:∃L,Row wy 115 15 (some ⟨Q,0,none⟩) nq nq L/\∀j,j<nq->el 15 L j=Bx
 ne:P≠Q/\P≠gs/\Q≠gs
 ge:W0.heap.size<=P/\W0.heap.size<=Q/\W0.heap.size<=gs
 au:Below W0.heap.size W0 wy
theorem OS.mk6{W0:World}{tk:Int}{np nq:Nat}(h1:np<=maxLen)(h2:nq<=maxLen)(W:World)(gs P Q:Nat)(hs:W.heap[gs]?=some (.cells #[.int .i64 tk,.slice (some ⟨P,0,none⟩) np np,.slice (some ⟨Q,0,none⟩) nq nq] 78 (0,0)))(hp:W.heap[P]?=some (.cells (madeCells (Value.agg #[.int .i64 0,.slice none 0 0,.int .i64 0,.int .i64 0,.slice none 0 0,.slice none 0 0]).cells (np*6)) 109))(hq:W.heap[Q]?=some (.cells (madeCells (Value.agg #[.int .i64 0,.int .i64 0,.int .i64 0,.int .i64 0,.int .i64 0,.int .i64 0,.int .i64 0,.int .i64 0,.int .i64 0,.int .i64 0,.int .i64 0,.int .i64 0,.bool false,.int .i64 0,.slice none 0 0]).cells (nq*15)) 115))
 (hn:P≠Q/\P≠gs/\Q≠gs)(hg:W0.heap.size<=P/\W0.heap.size<=Q/\W0.heap.size<=gs)(hb:Below W0.heap.size W0 W):OS W0 W tk np nq gs P Q:=
 ⟨hs,⟨_,mZ hp (size_madeCells _ _) h1,fun j hj=>Vi (Value.agg #[.int .i64 0,.slice none 0 0,.int .i64 0,.int .i64 0,.slice none 0 0,.slice none 0 0]).cells np j hj⟩,⟨_,mZ hq (size_madeCells _ _) h2,fun j hj=>Vi (Value.agg #[.int .i64 0,.int .i64 0,.int .i64 0,.int .i64 0,.int .i64 0,.int .i64 0,.int .i64 0,.int .i64 0,.int .i64 0,.int .i64 0,.int .i64 0,.int .i64 0,.bool false,.int .i64 0,.slice none 0 0]).cells nq j hj⟩,hn,hg,hb⟩
theorem of_any{cc cs:List Value}{c:l_}{x:tz}(hc:fE w cc c)(hx:sE w cs x)(hf:WB x)(a:Nat)(ha:a<18446744073709551616):Calls prog 53 #[.agg cc.toArray,.agg cs.toArray,.int .u64 (a:Int)] w (Kc w (xH c a x)):=by
 obtain ⟨tk,pp,pq⟩:=x;obtain ⟨u,v,e1,k1,k2⟩:=hx;obtain ⟨f1,f2,f3,f4⟩:=hf;simp only at e1 k1 k2 f1 f2 f3 f4;subst e1;have G3:=hd hc;obtain ⟨v0,v1,v2,v3,v4,v5,v6,ecc,-,-⟩:=hc;subst ecc;obtain ⟨la,lc,rfl,-,hA⟩:=k1.at' (by decide);obtain ⟨lb,ld,rfl,-,hB⟩:=k2.at' (by decide);have HA:=hd hA;have HB:=hd hB;have F3:=hd f3;have F4:=hd f4;obtain ⟨Q0,hQ⟩:=Haa (Kc w (xH c a ⟨tk,pp,pq⟩));rw [hQ.out];obtain ⟨np,dI⟩:=Haa pp.length;obtain ⟨nq,dV⟩:=Haa pq.length;rw [dI.out]at HA f1⊢;rw [dV.out]at HB f2⊢;have F1:=hd f1;have F2:=hd f2;clear hA hB k1 k2 f3 f4;have ZW:Hid (fE w [v0,v1,v2,v3,v4,v5,v6] c):=G3;go_enter func53,ntmps53;go_upto_region 1 with fail;obtain ⟨h1,h2,h3,h4,h5⟩:=js w (.cells #[v0,v1,v2,v3,v4,v5,v6] 26) (.cells #[.int .i64 tk,.slice la np lc,.slice lb nq ld] 78) (.cells #[.int .i64 0,.slice none 0 0,.slice none 0 0] 78);obtain ⟨W0,aD⟩:=Haa (((w.alloc (.cells #[v0,v1,v2,v3,v4,v5,v6] 26)).alloc (.cells #[.int .i64 tk,.slice la np lc,.slice lb nq ld] 78)).alloc (.cells #[.int .i64 0,.slice none 0 0,.slice none 0 0] 78));rw [aD.out]at h1 h2 h3 h4 h5⊢;obtain ⟨B,hB⟩:=Haa w.heap.size;rw [hB.out]at h1 h2 h3 h4⊢;obtain ⟨B1,dM⟩:=Haa (B+1);obtain ⟨B2,kr⟩:=Haa (B+2)
 (try rw [show B+1+1=B+2 from rfl])
 rw [dM.out]at h2⊢;rw [kr.out]at h3⊢;have S0:=hd h4;have rL:=hd h5;have X1:=hd h1;have X2:=hd h2;have X3:=hd h3;have x0:=aC h2 (j:=0) rfl;have x1:=aC h2 (j:=1) rfl;have x2:=aC h2 (j:=2) rfl;simp at x0 x1 x2;have ZX:=fun W=>tF 75 109 _ 6 96 underlying75 Jo np (by omega) (by unfold maxLen;omega) W
 have ZY:=fun W=>tF 76 115 _ 15 136 underlying76 Jc nq (by omega) (by unfold maxLen;omega) W
 have HM:=hd (OS.mk6 (W0:=W0) (tk:=tk) (np:=np) (nq:=nq) (by unfold maxLen;omega) (by unfold maxLen;omega));obtain ⟨oP,ZZ⟩:=Haa (Obj.cells (madeCells (Value.agg #[.int .i64 0,.slice none 0 0,.int .i64 0,.int .i64 0,.slice none 0 0,.slice none 0 0]).cells (np*6)) 109);obtain ⟨oQ,Z0⟩:=Haa (Obj.cells (madeCells (Value.agg #[.int .i64 0,.int .i64 0,.int .i64 0,.int .i64 0,.int .i64 0,.int .i64 0,.int .i64 0,.int .i64 0,.int .i64 0,.int .i64 0,.int .i64 0,.int .i64 0,.bool false,.int .i64 0,.slice none 0 0]).cells (nq*15)) 115);rw [ZZ.out]at ZX HM;rw [Z0.out]at ZY HM;have HK:Hid (∀V,Below W0.heap.size W0 V->V.cell? ⟨B1,0,none⟩=some (.int .i64 tk)/\V.cell? ⟨B1,1,none⟩=some (.slice la np lc)/\V.cell? ⟨B1,2,none⟩=some (.slice lb nq ld)):=hd (fun V hb=>⟨(hb.cell (aaj W0 _ x0)).trans x0,(hb.cell (aaj W0 _ x1)).trans x1,(hb.cell (aaj W0 _ x2)).trans x2⟩);clear h1 h2 h3 h4 h5 aD ZZ Z0;go_cut [7] (fun v7 wy=>∃gs P Q:Nat,v7=.pointer (some ⟨gs,0,none⟩)/\Hid (OS W0 wy tk np nq gs P Q))
 case first=>
  go_region_held3 (fun w'=>w'.cell? ⟨B1,0,none⟩=some (.int .i64 tk)/\w'.cell? ⟨B1,1,none⟩=some (.slice la np lc)/\w'.cell? ⟨B1,2,none⟩=some (.slice lb nq ld)) (first|exact HK.out _ (js W0 _ _ _).2.2.2.2.drew|exact HK.out _ (js W0 _ _ _).2.2.2.2|go_keep) (fail)
  all_goals (
   go_wp2_with fail
   go_meet)
  ·refine ⟨W0.heap.size+1+1,W0.heap.size,W0.heap.size+1,rfl,hd ?_⟩;exact HM.out _ _ _ _ (js W0 _ _ _).2.2.1 (js W0 _ _ _).1 (js W0 _ _ _).2.1 (by omega) (by omega) (js W0 _ _ _).2.2.2.2.drew
  ·refine ⟨W0.heap.size+1,W0.heap.size,W0.heap.size+1+1,rfl,hd ?_⟩;exact HM.out _ _ _ _ (js W0 _ _ _).2.1 (js W0 _ _ _).1 (js W0 _ _ _).2.2.1 (by omega) (by omega) (js W0 _ _ _).2.2.2.2.drew
  ·refine ⟨W0.heap.size+1+1,W0.heap.size+1,W0.heap.size,rfl,hd ?_⟩;exact HM.out _ _ _ _ (js W0 _ _ _).2.2.1 (js W0 _ _ _).2.1 (js W0 _ _ _).1 (by omega) (by omega) (js W0 _ _ _).2.2.2.2.drew
  ·refine ⟨W0.heap.size+1,W0.heap.size+1+1,W0.heap.size,rfl,hd ?_⟩;exact HM.out _ _ _ _ (js W0 _ _ _).2.1 (js W0 _ _ _).2.2.1 (js W0 _ _ _).1 (by omega) (by omega) (js W0 _ _ _).2.2.2.2.drew
  ·refine ⟨W0.heap.size,W0.heap.size+1,W0.heap.size+1+1,rfl,hd ?_⟩;exact HM.out _ _ _ _ (js W0 _ _ _).1 (js W0 _ _ _).2.1 (js W0 _ _ _).2.2.1 (by omega) (by omega) (js W0 _ _ _).2.2.2.2.drew
  ·refine ⟨W0.heap.size,W0.heap.size+1+1,W0.heap.size+1,rfl,hd ?_⟩;exact HM.out _ _ _ _ (js W0 _ _ _).1 (js W0 _ _ _).2.2.1 (js W0 _ _ _).2.1 (by omega) (by omega) (js W0 _ _ _).2.2.2.2.drew
 case rest=>
  obtain ⟨gs,P,Q,rfl,qC⟩:=hcut
  have HX:Hid (∀wr,Mod (fun k=>k=P\/k=Q) wc wr->wr.heap[B]?=some (.cells #[v0,v1,v2,v3,v4,v5,v6] 26 (0,0))/\wr.heap[B1]?=some (.cells #[.int .i64 tk,.slice la np lc,.slice lb nq ld] 78 (0,0))/\wr.heap[B2]?=some (.cells #[.int .i64 0,.slice none 0 0,.slice none 0 0] 78 (0,0))/\wr.heap[gs]?=some (.cells #[.int .i64 tk,.slice (some ⟨P,0,none⟩) np np,.slice (some ⟨Q,0,none⟩) nq nq] 78 (0,0))/\Below w.heap.size w wr):=hd (fun wr h=>by
   have s0:=S0.out;have hb:=hB.out;have aH:=dM.out;have aI:=kr.out;obtain ⟨g1,g2,g3⟩:=qC.out.ge;obtain ⟨n1,n2,n3⟩:=qC.out.ne;have cQ:=qC.out.au;have cD:=cQ.size;have gK:gs<wc.heap.size:=(aab.1 qC.out.box).1;refine ⟨?_, ?_, ?_, ?_, ?_⟩
   ·rw [h.block B (by omega) (by omega),cQ.block B (by omega)];exact X1.out
   ·rw [h.block B1 (by omega) (by omega),cQ.block B1 (by omega)];exact X2.out
   ·rw [h.block B2 (by omega) (by omega),cQ.block B2 (by omega)];exact X3.out
   ·rw [h.block gs gK (by omega)];exact qC.out.box
   ·exact (rL.out.trans (cQ.mono rL.out.size)).trans (h.below (by have:=rL.out.size;omega) (fun k _ e=>by rcases e with e|e<;>(have:=rL.out.size;omega))))
  obtain ⟨xs,GW⟩:=Haa (wK (jC c a) mz 0 pp);obtain ⟨ys,sP⟩:=Haa (wK (jD c a) pz 0 pq)
  have Z1:Hid (∀j,j<np->xs.getD j default=if jC c a (j:Int)then pp.getD j default else mz):=hd (fun j hj=>by
   have:=DX (jC c a) mz default 0 pp j (by rw [dI.out];exact hj);rw [GW.out,aaH]at this
   exact this)
  have Z2:Hid (∀j,j<nq->ys.getD j default=if jD c a (j:Int)then pq.getD j default else pz):=hd (fun j hj=>by
   have:=DX (jD c a) pz default 0 pq j (by rw [dV.out];exact hj);rw [sP.out,aaH]at this
   exact this)
  have G0:Hid (GI 109 6 pO Bw wc P np xs 0 wc):=hd (by
   obtain ⟨L,r1,r2⟩:=qC.out.rp
   exact ⟨⟨L,fun _=>wc.heap.size,r1,rfl,rfl,fun j hj=>absurd hj (aao j),fun j hj=>absurd hj (aao j),fun j _ hj=>r2 j hj⟩,Mod.refl _ _,r1.lt P rfl⟩)
  obtain ⟨bx,bs,br,bg,bw⟩:=HX.out wc (Mod.refl _ _);have x1:=aC bs (j:=1) rfl;have x0:=aC bs (j:=0) rfl;have x2:=aC bs (j:=2) rfl;simp at x0 x1 x2;clear ZX ZY HM HK X1 X2 X3 bx bs br bg bw;go_wp2_with fail;clear x0 x1 x2;go_loopg [26] np (fun k v26 wr=>∃(i:Nat),v26=.int .i64 (i:Int)/\i+k=np/\Hid (GI 109 6 pO Bw wc P np xs i wr))
  case atStart=>exact ⟨0,rfl,by omega,G0⟩
  case round=>
   obtain ⟨i,rfl,dh,HG⟩:=hrel
   (try clear G0)
   obtain ⟨bx,bs,br,bg,bw⟩:=HX.out wr (HG.out.md.mono (fun k _ e=> .inl e));by_cases af:i<np
   ·have fI:(i:Int)<(np:Int):=by omega
    obtain ⟨ga,oa,jT,ea,-,e1,e2⟩:=HA.out i af;subst ea;have rA:=hd e1;have Dx:=hd (F3.out i);have vR:=hd (Z1.out i af);obtain ⟨x,hx⟩:=Haa (pp.getD i default);rw [hx.out]at e1 rA Dx vR;have R6:=hd e1;obtain ⟨p0,p1,p2,p3,p4,p5⟩:=x;obtain ⟨up,vp,zp,ep,Dn,L3,E9⟩:=id e1;simp only at ep Dn L3 E9;obtain ⟨ua,uc,-,eu,-⟩:=Dn;obtain ⟨va,vc,-,ev,-⟩:=L3;obtain ⟨za,zc,-,ez,-⟩:=E9;subst eu ev ez;subst ep;have IX:=e2 wr bw 0 _ rfl;have R7:=e2 wr bw 1 _ rfl;have R_:=e2 wr bw 2 _ rfl;have Sa:=e2 wr bw 3 _ rfl;have Sb:=e2 wr bw 4 _ rfl;have Sc:=e2 wr bw 5 _ rfl;simp only [Nat.add_zero]at IX;have zA:=aC bg (j:=1) rfl;simp at zA;clear e1 e2 bs br;go_upto_region 5 with fail;have jA:=aae wr (.cells #[.int .i64 p0,.slice ua p1.length uc,.int .i64 p2,.int .i64 p3,.slice va p4.length vc,.slice za p5.length zc] 109);have cQ:=aA wr (.cells #[.int .i64 p0,.slice ua p1.length uc,.int .i64 p2,.int .i64 p3,.slice va p4.length vc,.slice za p5.length zc] 109);obtain ⟨wa,cW⟩:=Haa (wr.alloc (.cells #[.int .i64 p0,.slice ua p1.length uc,.int .i64 p2,.int .i64 p3,.slice va p4.length vc,.slice za p5.length zc] 109));rw [cW.out]at jA cQ⊢;obtain ⟨G,hG⟩:=Haa wr.heap.size;rw [hG.out]at jA⊢;have kW:=hd cQ;have CH:=bw.trans (cQ.mono bw.size);have zB:=Ss (ZW.out.below CH) (i:Int) a ha;obtain ⟨r,hr⟩:=Haa (jC c a (i:Int));rw [hr.out]at zB vR;have nM:=(cQ.block B (aab.1 bx).1).trans bx;have vO:=aC nM (j:=0) rfl;have vP:=aC nM (j:=1) rfl;have vQ:=aC nM (j:=2) rfl;have Bn:=aC nM (j:=3) rfl;have Bo:=aC nM (j:=4) rfl;have Bq:=aC nM (j:=5) rfl;have Br:=aC nM (j:=6) rfl;simp at vO vP vQ Bn Bo Bq Br
    have IY:Hid (∀V,Below wa.heap.size wa V->V.cell? ⟨G,0,none⟩=some (.int .i64 p0)/\V.cell? ⟨G,1,none⟩=some (.slice ua p1.length uc)/\V.cell? ⟨G,2,none⟩=some (.int .i64 p2)/\V.cell? ⟨G,3,none⟩=some (.int .i64 p3)/\V.cell? ⟨G,4,none⟩=some (.slice va p4.length vc)/\V.cell? ⟨G,5,none⟩=some (.slice za p5.length zc)/\V.cell? ⟨gs,1,none⟩=some (.slice (some ⟨P,0,none⟩) np np)):=hd (fun V hb=>by
     have hh:=(hb.block G (aab.1 jA).1).trans jA;have gK:=aaj wr _ zA
     exact ⟨aC hh rfl,aC hh rfl,aC hh rfl,aC hh rfl,aC hh rfl,aC hh rfl,by rw [hb.cell (p:=⟨gs,1,none⟩) (aam gK kW.out.size),kW.out.cell (p:=⟨gs,1,none⟩) gK];exact zA⟩)
    have yj:=hd CH;clear IX R7 R_ Sa Sb Sc zA bx bg bw jA cQ nM CH cW hr
    cases r
    case false=>
     have Sd:Hid (∀wb,Below wa.heap.size wa wb->GI 109 6 pO Bw wc P np xs (i+1) wb):=hd (fun wb hb=>by
      have eW:=kW.out.trans (hb.mono kW.out.size);refine HG.out.skip af (fun _ _ _ _ _ _ hk h=>h.kept hk) eW ?_;rw [vR.out]
      exact pO.zero eW.size wb)
     go_wp2_with (go_at_call 31;(with_reducible refine zB.mono ?_);rintro e wb ⟨rfl,bb⟩;have BB:=hd (Sd.out wb bb);clear bb);go_roundg (gk-1)
     case rel=>exact ⟨i+1,by go_num,by omega,BB⟩
     case measure=>omega
    case true=>
     go_upto_region 6 with(go_at_call 31;(with_reducible refine zB.mono ?_);rintro e wb ⟨rfl,bb⟩;have BB:=hd bb;clear bb);have fZ:=BB.out;have aJ:=copiedPart_any (rA.out.below ((yj.out.trans (fZ.mono yj.out.size)).trans ((fu wb).mono (yj.out.trans (fZ.mono yj.out.size)).size))) Dx.out
     have PK:Hid (∀(w2:World) (y1 y4 y5:Value),Below wb.drew.heap.size wb.drew w2->pO wb.drew.heap.size w2.heap.size w2 [.int .i64 p0,y1,.int .i64 p2,.int .i64 p3,y4,y5] ⟨p0,p1,p2,p3,p4,p5⟩->GI 109 6 pO Bw wc P np xs (i+1) ((((((w2.setCell ⟨P,i*6,none⟩ (.int .i64 p0)).setCell ⟨P,i*6+1,none⟩ (y1)).setCell ⟨P,i*6+2,none⟩ (.int .i64 p2)).setCell ⟨P,i*6+3,none⟩ (.int .i64 p3)).setCell ⟨P,i*6+4,none⟩ (y4)).setCell ⟨P,i*6+5,none⟩ (y5))/\((∃u,w2.cell? ⟨P,i*6,none⟩=some u)/\(∃u,w2.cell? ⟨P,i*6+1,none⟩=some u)/\(∃u,w2.cell? ⟨P,i*6+2,none⟩=some u)/\(∃u,w2.cell? ⟨P,i*6+3,none⟩=some u)/\(∃u,w2.cell? ⟨P,i*6+4,none⟩=some u)/\(∃u,w2.cell? ⟨P,i*6+5,none⟩=some u))/\∀j,w2.frozen? ⟨P,j,none⟩=false):=hd (fun w2 y1 y4 y5 aI hp=>by
      have eW:=cC aI;have Du:=kW.out.trans (fZ.mono kW.out.size);refine HG.out.put6 af Du eW ?_;rw [vR.out]
      exact hp)
     have IZ:Hid (∀V,Below wb.heap.size wb V->V.cell? ⟨G,0,none⟩=some (.int .i64 p0)/\V.cell? ⟨G,1,none⟩=some (.slice ua p1.length uc)/\V.cell? ⟨G,2,none⟩=some (.int .i64 p2)/\V.cell? ⟨G,3,none⟩=some (.int .i64 p3)/\V.cell? ⟨G,4,none⟩=some (.slice va p4.length vc)/\V.cell? ⟨G,5,none⟩=some (.slice za p5.length zc)/\V.cell? ⟨gs,1,none⟩=some (.slice (some ⟨P,0,none⟩) np np)):=hd (fun V hb=>IY.out V (fZ.trans (hb.mono fZ.size)));obtain ⟨m0,m1,m2,m3,m4,m5,m6⟩:=IZ.out wb (fk _);have bC:gs≠P/\P≠gs/\G≠P/\P≠G:=by
      have h1:=qC.out.ne;have h2:=HG.out.lt;have h3:=HG.out.md.size;have h4:=hG.out;omega
     obtain ⟨XT,XU,ne3,ne4⟩:=bC;clear zB vO vP vQ Bn Bo Bq Br IY fZ rA Dx R6 vR;go_region_held3 (fun w'=>w'.cell? ⟨G,0,none⟩=some (.int .i64 p0)/\w'.cell? ⟨G,1,none⟩=some (.slice ua p1.length uc)/\w'.cell? ⟨G,2,none⟩=some (.int .i64 p2)/\w'.cell? ⟨G,3,none⟩=some (.int .i64 p3)/\w'.cell? ⟨G,4,none⟩=some (.slice va p4.length vc)/\w'.cell? ⟨G,5,none⟩=some (.slice za p5.length zc)/\w'.cell? ⟨gs,1,none⟩=some (.slice (some ⟨P,0,none⟩) np np)) (go_keep)
      (first
       |(go_at_call 72;(with_reducible refine aJ.mono ?_);rintro e w2 ⟨Dy,rfl,I1,b2⟩;obtain ⟨k0,k1,k2,k3,k4,k5,k6⟩:=IZ.out w2 (cC b2);have GR:=I1;obtain ⟨y1,y4,y5,m1_,m2_,I2,Se,mb_,mc_,Z3,Z4,Z5⟩:=I1;simp only at I2;subst I2;simp only at Z3 Z4 Z5;obtain ⟨Sf,Sg,-,-,Ho,-⟩:=Z3;obtain ⟨s4a,s4c,-,-,es4,-⟩:=Z4;obtain ⟨s5a,s5c,-,-,es5,-⟩:=Z5;subst Ho es4 es5;obtain ⟨lJ,⟨⟨z0,zz0⟩,⟨z1,zz1⟩,⟨z2,zz2⟩,⟨z3,zz3⟩,⟨z4,zz4⟩,⟨z5,zz5⟩⟩,Fk⟩:=PK.out w2 (.slice Sf p1.length Sg) (.slice s4a p4.length s4c) (.slice s5a p5.length s5c) b2 GR;have yN:=hd lJ;clear lJ GR b2))
     all_goals (
      go_wp2_with fail;go_roundg (gk-1)
      case rel=>exact ⟨i+1,by go_num,by omega,yN⟩
      case measure=>omega)
   ·obtain rfl:i=np:=by omega
    have nW:=HG;have KE:=HG.out.md;obtain ⟨W2,gq⟩:=Haa wr;rw [gq.out]at nW KE bs⊢;have HT:Hid (∀v,Mod (fun k=>k=Q) W2 v->Mod (fun k=>k=P\/k=Q) wc v):=hd (fun v hv=>(KE.mono (S':=fun k=>k=P\/k=Q) (fun k _ e=> .inl e)).trans hv (fun k e=> .inl (.inr e)))
    have G2:Hid (GI 115 15 rO Bx W2 Q nq ys 0 W2):=hd (by
     obtain ⟨L,r1,r2⟩:=qC.out.rq;obtain ⟨n1,n2,n3⟩:=qC.out.ne;have kU:=r1.lt Q rfl;have Ff:=r1.mod KE (fun k hk e=>by cases hk;exact n1 e.symm)
     exact ⟨⟨L,fun _=>W2.heap.size,Ff,rfl,rfl,fun j hj=>absurd hj (aao j),fun j hj=>absurd hj (aao j),fun j _ hj=>r2 j hj⟩,Mod.refl _ _,Ff.lt Q rfl⟩)
    have x1:=aC bs (j:=1) rfl;have x2:=aC bs (j:=2) rfl;simp at x1 x2;clear HG bx bs br bg bw KE af dh;go_wp2_with fail;clear x1 x2;go_loopg [45] nq (fun k v45 wr=>∃(i2:Nat),v45=.int .i64 (i2:Int)/\i2+k=nq/\Hid (GI 115 15 rO Bx W2 Q nq ys i2 wr))
    case atStart=>exact ⟨0,rfl,by omega,G2⟩
    case round=>
     obtain ⟨i2,rfl,dh,HG⟩:=hrel
     (try clear G0)
     obtain ⟨bx,bs,br,bg,bw⟩:=HX.out wr (HT.out wr HG.out.md);by_cases af:i2<nq
     ·have fI:(i2:Int)<(nq:Int):=by omega
      obtain ⟨ga,oa,jT,ea,-,e1,e2⟩:=HB.out i2 af;subst ea;have rA:=hd e1;have Dx:=hd (F4.out i2);have vR:=hd (Z2.out i2 af);obtain ⟨x,hx⟩:=Haa (pq.getD i2 default);rw [hx.out]at e1 rA Dx vR;have R6:=hd e1;obtain ⟨ps,pp,⟨p0,p1,p2,p3,p4,p5,p6,p7⟩,pc,pi,pf,pw,pl⟩:=x;obtain ⟨vp,ep,Dn⟩:=id e1;simp only at ep Dn;obtain ⟨va,vc,-,ev,-⟩:=Dn;subst ev;subst ep;have IX:=e2 wr bw 0 _ rfl;have R7:=e2 wr bw 1 _ rfl;have R_:=e2 wr bw 2 _ rfl;have Sa:=e2 wr bw 3 _ rfl;have Sb:=e2 wr bw 4 _ rfl;have Sc:=e2 wr bw 5 _ rfl;have q6_:=e2 wr bw 6 _ rfl;have q7_:=e2 wr bw 7 _ rfl;have q8_:=e2 wr bw 8 _ rfl;have q9_:=e2 wr bw 9 _ rfl;have q10_:=e2 wr bw 10 _ rfl;have q11_:=e2 wr bw 11 _ rfl;have q12_:=e2 wr bw 12 _ rfl;have q13_:=e2 wr bw 13 _ rfl;have q14_:=e2 wr bw 14 _ rfl;simp only [Nat.add_zero]at IX;have zA:=aC bg (j:=2) rfl;simp at zA;clear e1 e2 bs br;go_upto_region 11 with fail;have jA:=aae wr (.cells #[.int .i64 ps,.int .i64 pp,.int .i64 p0,.int .i64 p1,.int .i64 p2,.int .i64 p3,.int .i64 p4,.int .i64 p5,.int .i64 p6,.int .i64 p7,.int .i64 pc,.int .i64 pi,.bool pf,.int .i64 pw,.slice va pl.length vc] 115);have cQ:=aA wr (.cells #[.int .i64 ps,.int .i64 pp,.int .i64 p0,.int .i64 p1,.int .i64 p2,.int .i64 p3,.int .i64 p4,.int .i64 p5,.int .i64 p6,.int .i64 p7,.int .i64 pc,.int .i64 pi,.bool pf,.int .i64 pw,.slice va pl.length vc] 115);obtain ⟨wa,cW⟩:=Haa (wr.alloc (.cells #[.int .i64 ps,.int .i64 pp,.int .i64 p0,.int .i64 p1,.int .i64 p2,.int .i64 p3,.int .i64 p4,.int .i64 p5,.int .i64 p6,.int .i64 p7,.int .i64 pc,.int .i64 pi,.bool pf,.int .i64 pw,.slice va pl.length vc] 115));rw [cW.out]at jA cQ⊢;obtain ⟨G,hG⟩:=Haa wr.heap.size;rw [hG.out]at jA⊢;have kW:=hd cQ;have CH:=bw.trans (cQ.mono bw.size);have zB:=Nu (ZW.out.below CH) (i2:Int) a ha;obtain ⟨r,hr⟩:=Haa (jD c a (i2:Int));rw [hr.out]at zB vR;have nM:=(cQ.block B (aab.1 bx).1).trans bx;have vO:=aC nM (j:=0) rfl;have vP:=aC nM (j:=1) rfl;have vQ:=aC nM (j:=2) rfl;have Bn:=aC nM (j:=3) rfl;have Bo:=aC nM (j:=4) rfl;have Bq:=aC nM (j:=5) rfl;have Br:=aC nM (j:=6) rfl;simp at vO vP vQ Bn Bo Bq Br
      have IY:Hid (∀V,Below wa.heap.size wa V->V.cell? ⟨G,0,none⟩=some (.int .i64 ps)/\V.cell? ⟨G,1,none⟩=some (.int .i64 pp)/\V.cell? ⟨G,2,none⟩=some (.int .i64 p0)/\V.cell? ⟨G,3,none⟩=some (.int .i64 p1)/\V.cell? ⟨G,4,none⟩=some (.int .i64 p2)/\V.cell? ⟨G,5,none⟩=some (.int .i64 p3)/\V.cell? ⟨G,6,none⟩=some (.int .i64 p4)/\V.cell? ⟨G,7,none⟩=some (.int .i64 p5)/\V.cell? ⟨G,8,none⟩=some (.int .i64 p6)/\V.cell? ⟨G,9,none⟩=some (.int .i64 p7)/\V.cell? ⟨G,10,none⟩=some (.int .i64 pc)/\V.cell? ⟨G,11,none⟩=some (.int .i64 pi)/\V.cell? ⟨G,12,none⟩=some (.bool pf)/\V.cell? ⟨G,13,none⟩=some (.int .i64 pw)/\V.cell? ⟨G,14,none⟩=some (.slice va pl.length vc)/\V.cell? ⟨gs,2,none⟩=some (.slice (some ⟨Q,0,none⟩) nq nq)):=hd (fun V hb=>by
       have hh:=(hb.block G (aab.1 jA).1).trans jA;have gK:=aaj wr _ zA
       exact ⟨aC hh rfl,aC hh rfl,aC hh rfl,aC hh rfl,aC hh rfl,aC hh rfl,aC hh rfl,aC hh rfl,aC hh rfl,aC hh rfl,aC hh rfl,aC hh rfl,aC hh rfl,aC hh rfl,aC hh rfl,by rw [hb.cell (p:=⟨gs,2,none⟩) (aam gK kW.out.size),kW.out.cell (p:=⟨gs,2,none⟩) gK];exact zA⟩)
      have yj:=hd CH;clear IX R7 R_ Sa Sb Sc q6_ q7_ q8_ q9_ q10_ q11_ q12_ q13_ q14_ zA bx bg bw jA cQ nM CH cW hr
      cases r
      case false=>
       have Sd:Hid (∀wb,Below wa.heap.size wa wb->GI 115 15 rO Bx W2 Q nq ys (i2+1) wb):=hd (fun wb hb=>by
        have eW:=kW.out.trans (hb.mono kW.out.size);refine HG.out.skip af (fun _ _ _ _ _ _ hk h=>h.kept hk) eW ?_;rw [vR.out]
        exact rO.zero eW.size wb)
       go_wp2_with (go_at_call 17;(with_reducible refine zB.mono ?_);rintro e wb ⟨rfl,bb⟩;have BB:=hd (Sd.out wb bb);clear bb);go_roundg (gk-1)
       case rel=>exact ⟨i2+1,by go_num,by omega,BB⟩
       case measure=>omega
      case true=>
       go_upto_region 12 with(go_at_call 17;(with_reducible refine zB.mono ?_);rintro e wb ⟨rfl,bb⟩;have BB:=hd bb;clear bb);have fZ:=BB.out;have aJ:=copiedProcess_any (rA.out.below ((yj.out.trans (fZ.mono yj.out.size)).trans ((fu wb).mono (yj.out.trans (fZ.mono yj.out.size)).size))) Dx.out
       have PK:Hid (∀(w2:World) (y1:Value),Below wb.drew.heap.size wb.drew w2->rO wb.drew.heap.size w2.heap.size w2 [.int .i64 ps,.int .i64 pp,.int .i64 p0,.int .i64 p1,.int .i64 p2,.int .i64 p3,.int .i64 p4,.int .i64 p5,.int .i64 p6,.int .i64 p7,.int .i64 pc,.int .i64 pi,.bool pf,.int .i64 pw,y1] ⟨ps,pp,⟨p0,p1,p2,p3,p4,p5,p6,p7⟩,pc,pi,pf,pw,pl⟩->GI 115 15 rO Bx W2 Q nq ys (i2+1) (((((((((((((((w2.setCell ⟨Q,i2*15,none⟩ (.int .i64 ps)).setCell ⟨Q,i2*15+1,none⟩ (.int .i64 pp)).setCell ⟨Q,i2*15+2,none⟩ (.int .i64 p0)).setCell ⟨Q,i2*15+3,none⟩ (.int .i64 p1)).setCell ⟨Q,i2*15+4,none⟩ (.int .i64 p2)).setCell ⟨Q,i2*15+5,none⟩ (.int .i64 p3)).setCell ⟨Q,i2*15+6,none⟩ (.int .i64 p4)).setCell ⟨Q,i2*15+7,none⟩ (.int .i64 p5)).setCell ⟨Q,i2*15+8,none⟩ (.int .i64 p6)).setCell ⟨Q,i2*15+9,none⟩ (.int .i64 p7)).setCell ⟨Q,i2*15+10,none⟩ (.int .i64 pc)).setCell ⟨Q,i2*15+11,none⟩ (.int .i64 pi)).setCell ⟨Q,i2*15+12,none⟩ (.bool pf)).setCell ⟨Q,i2*15+13,none⟩ (.int .i64 pw)).setCell ⟨Q,i2*15+14,none⟩ (y1))/\((∃u,w2.cell? ⟨Q,i2*15,none⟩=some u)/\(∃u,w2.cell? ⟨Q,i2*15+1,none⟩=some u)/\(∃u,w2.cell? ⟨Q,i2*15+2,none⟩=some u)/\(∃u,w2.cell? ⟨Q,i2*15+3,none⟩=some u)/\(∃u,w2.cell? ⟨Q,i2*15+4,none⟩=some u)/\(∃u,w2.cell? ⟨Q,i2*15+5,none⟩=some u)/\(∃u,w2.cell? ⟨Q,i2*15+6,none⟩=some u)/\(∃u,w2.cell? ⟨Q,i2*15+7,none⟩=some u)/\(∃u,w2.cell? ⟨Q,i2*15+8,none⟩=some u)/\(∃u,w2.cell? ⟨Q,i2*15+9,none⟩=some u)/\(∃u,w2.cell? ⟨Q,i2*15+10,none⟩=some u)/\(∃u,w2.cell? ⟨Q,i2*15+11,none⟩=some u)/\(∃u,w2.cell? ⟨Q,i2*15+12,none⟩=some u)/\(∃u,w2.cell? ⟨Q,i2*15+13,none⟩=some u)/\(∃u,w2.cell? ⟨Q,i2*15+14,none⟩=some u))/\∀j,w2.frozen? ⟨Q,j,none⟩=false):=hd (fun w2 y1 aI hp=>by
        have eW:=cC aI;have Du:=kW.out.trans (fZ.mono kW.out.size);refine HG.out.put15 af Du eW ?_;rw [vR.out]
        exact hp)
       have IZ:Hid (∀V,Below wb.heap.size wb V->V.cell? ⟨G,0,none⟩=some (.int .i64 ps)/\V.cell? ⟨G,1,none⟩=some (.int .i64 pp)/\V.cell? ⟨G,2,none⟩=some (.int .i64 p0)/\V.cell? ⟨G,3,none⟩=some (.int .i64 p1)/\V.cell? ⟨G,4,none⟩=some (.int .i64 p2)/\V.cell? ⟨G,5,none⟩=some (.int .i64 p3)/\V.cell? ⟨G,6,none⟩=some (.int .i64 p4)/\V.cell? ⟨G,7,none⟩=some (.int .i64 p5)/\V.cell? ⟨G,8,none⟩=some (.int .i64 p6)/\V.cell? ⟨G,9,none⟩=some (.int .i64 p7)/\V.cell? ⟨G,10,none⟩=some (.int .i64 pc)/\V.cell? ⟨G,11,none⟩=some (.int .i64 pi)/\V.cell? ⟨G,12,none⟩=some (.bool pf)/\V.cell? ⟨G,13,none⟩=some (.int .i64 pw)/\V.cell? ⟨G,14,none⟩=some (.slice va pl.length vc)/\V.cell? ⟨gs,2,none⟩=some (.slice (some ⟨Q,0,none⟩) nq nq)):=hd (fun V hb=>IY.out V (fZ.trans (hb.mono fZ.size)));obtain ⟨m0,m1,m2,m3,m4,m5,m6,m7,m8,m9,m10,m11,m12,m13,m14,m15⟩:=IZ.out wb (fk _);have bC:gs≠Q/\Q≠gs/\G≠Q/\Q≠G:=by
        have h1:=qC.out.ne;have h2:=HG.out.lt;have h3:=HG.out.md.size;have h4:=hG.out;omega
       obtain ⟨XT,XU,ne3,ne4⟩:=bC;clear zB vO vP vQ Bn Bo Bq Br IY fZ rA Dx R6 vR;go_region_held3 (fun w'=>w'.cell? ⟨G,0,none⟩=some (.int .i64 ps)/\w'.cell? ⟨G,1,none⟩=some (.int .i64 pp)/\w'.cell? ⟨G,2,none⟩=some (.int .i64 p0)/\w'.cell? ⟨G,3,none⟩=some (.int .i64 p1)/\w'.cell? ⟨G,4,none⟩=some (.int .i64 p2)/\w'.cell? ⟨G,5,none⟩=some (.int .i64 p3)/\w'.cell? ⟨G,6,none⟩=some (.int .i64 p4)/\w'.cell? ⟨G,7,none⟩=some (.int .i64 p5)/\w'.cell? ⟨G,8,none⟩=some (.int .i64 p6)/\w'.cell? ⟨G,9,none⟩=some (.int .i64 p7)/\w'.cell? ⟨G,10,none⟩=some (.int .i64 pc)/\w'.cell? ⟨G,11,none⟩=some (.int .i64 pi)/\w'.cell? ⟨G,12,none⟩=some (.bool pf)/\w'.cell? ⟨G,13,none⟩=some (.int .i64 pw)/\w'.cell? ⟨G,14,none⟩=some (.slice va pl.length vc)/\w'.cell? ⟨gs,2,none⟩=some (.slice (some ⟨Q,0,none⟩) nq nq)) (go_keep)
        (first
         |(go_at_call 73;(with_reducible refine aJ.mono ?_);rintro e w2 ⟨Dy,rfl,I1,b2⟩;obtain ⟨k0,k1,k2,k3,k4,k5,k6,k7,k8,k9,k10,k11,k12,k13,k14,Z6⟩:=IZ.out w2 (cC b2);have GR:=I1;obtain ⟨y1,I2,Se⟩:=I1;simp only at I2;subst I2;simp only at Se;obtain ⟨Sf,Sg,-,-,Ho,-⟩:=Se;subst Ho;obtain ⟨lJ,⟨⟨z0,zz0⟩,⟨z1,zz1⟩,⟨z2,zz2⟩,⟨z3,zz3⟩,⟨z4,zz4⟩,⟨z5,zz5⟩,⟨z6,zz6⟩,⟨z7,zz7⟩,⟨z8,zz8⟩,⟨z9,zz9⟩,⟨Lz,zz10⟩,⟨LA,zz11⟩,⟨z12,zz12⟩,⟨LC,zz13⟩,⟨LD,zz14⟩⟩,Fk⟩:=PK.out w2 (.slice Sf pl.length Sg) b2 GR;have yN:=hd lJ;clear lJ GR b2))
       all_goals (
        go_wp2_with fail;go_roundg (gk-1)
        case rel=>exact ⟨i2+1,by go_num,by omega,yN⟩
        case measure=>omega)
     ·obtain rfl:i2=nq:=by omega
      obtain ⟨g1,g2,g3⟩:=set3 br (.int .i64 tk) (.slice (some ⟨P,0,none⟩) i i) (.slice (some ⟨Q,0,none⟩) i2 i2);have g4:=set3_below (A:=w.heap.size) (B:=B2) bw (by have:=hB.out;have:=kr.out;omega) (.int .i64 tk) (.slice (some ⟨P,0,none⟩) i i) (.slice (some ⟨Q,0,none⟩) i2 i2);obtain ⟨FW,xK⟩:=Haa (((wr.setCell ⟨B2,0,none⟩ (.int .i64 tk)).setCell ⟨B2,1,none⟩ (.slice (some ⟨P,0,none⟩) i i)).setCell ⟨B2,2,none⟩ (.slice (some ⟨Q,0,none⟩) i2 i2));rw [xK.out]at g1 g2 g3 g4;have HZ:=hd g1
      have HO:Hid (Q0 (.returned (.agg #[.int .i64 tk,.slice (some ⟨P,0,none⟩) i i,.slice (some ⟨Q,0,none⟩) i2 i2])) FW):=hd (by
       rw [<-hQ.out];have s0:=S0.out;have hb:=hB.out;have aI:=kr.out;obtain ⟨z1,z2,z3⟩:=qC.out.ge;obtain ⟨n1,n2,n3⟩:=qC.out.ne;have cQ:=qC.out.au.size;have jy:=nW.out.md.size;have hml2:=HG.out.md.size;have hP:=nW.out.lt;obtain ⟨L1,b1,r1,r2,r3,r4,r5,-⟩:=nW.out.ex;obtain ⟨L2,b2,t1,t2,t3,t4,t5,-⟩:=HG.out.ex;have di:=pM _ r4;have cO:=pM _ t4;have fW:(xH c a ⟨tk,pp,pq⟩).ps=xs:=GW.out;have CS:(xH c a ⟨tk,pp,pq⟩).qs=ys:=sP.out;have AJ:(xH c a ⟨tk,pp,pq⟩).tk=tk:=rfl;have jJ:xs.length=i:=by rw [<-GW.out,zL,dI.out]
       have Rs:ys.length=i2:=by rw [<-sP.out,zL,dV.out]
       have hQW:Q<wc.heap.size:=by
        obtain ⟨L,q1,-⟩:=qC.out.rq;exact q1.lt Q rfl
       have mJ:∀k,k≠B2->k≠Q->k<W2.heap.size->FW.heap[k]?=W2.heap[k]?:=fun k k1 k2 k3=>by rw [g3 k k1];exact HG.out.md.block k k3 k2
       have f1:=F1.out;have f2:=F2.out;refine ⟨_,rfl, ?_,g4⟩;unfold sO;rw [fW,CS,AJ,jJ,Rs];refine ⟨some ⟨P,0,none⟩,i,L1,b1,some ⟨Q,0,none⟩,i2,L2,b2,rfl,r1.kept (fun k hk=>by cases hk;exact mJ P (by omega) n1 (by omega)),t1.kept (fun k hk=>by cases hk;exact g3 Q (by omega)),fun k hk=> ?_,fun k hk=> ?_,by omega,r4,by omega,t4,by rw [t3,g2];exact aag _,by unfold iD;omega,by unfold iD;omega,fun j hj=> ?_,fun j hj=> ?_⟩
       ·have e0:P=k:=aau hk;exact ⟨by omega,by omega,fun e=>by have e9:Q=k:=aau e;omega⟩
       ·have e0:Q=k:=aau hk;exact ⟨by omega,by omega⟩
       ·have h1:=di j (by omega);have h2:=di (j+1) (by omega);exact (r5 j hj).kept fun k k1 k2=>mJ k (by omega) (by omega) (by omega)
       ·have h1:=cO j (by omega)
        exact (t5 j hj).kept fun k k1 k2=>g3 k (by omega))
      have RU:=aC bg (j:=0) rfl;have RW:=aC bg (j:=1) rfl;have RY:=aC bg (j:=2) rfl;have RV:=aC br (j:=0) rfl;have RX:=aC br (j:=1) rfl;have RZ:=aC br (j:=2) rfl;have zf:∀j,wr.frozen? ⟨B2,j,none⟩=false:=fun j=>BR br j
      clear g1 g2 g3 g4 HG nW bx bs br bg bw af dh HX qC Z1 Z2 HT HA HB F1 F2 F3 F4;go_wp2_with fail;rw [xK.out];refine aar (v:=.agg #[.int .i64 tk,.slice (some ⟨P,0,none⟩) i i,.slice (some ⟨Q,0,none⟩) i2 i2]) ?_ rfl HO.out;have vO:=aC HZ.out (j:=0) rfl;have vP:=aC HZ.out (j:=1) rfl;have vQ:=aC HZ.out (j:=2) rfl;clear HO HZ RU RW RY RV RX RZ zf xK;simp at vO vP vQ;simp [results,results53,go_sem,vO,vP,vQ]
end Go.Proofs.YthopnfbjiifhhaaGreatDoor.View
