/- slices.Clone, at five types. -/
import Derived.Test.YthopnfbjiifhhaaGreatDoorGMc
set_option maxHeartbeats 4000000
set_option maxRecDepth 100000
namespace Go.Proofs.YthopnfbjiifhhaaGreatDoor
open Go.RowKit Go.Proofs.Tryz
def ig(w:World)(e:TypeId)(size n:Nat)(xs:List Value)(E:Ending)(w':World):Prop:=∃a' c',E=.returned (.slice a' n c')/\Row w' e size a' n c' xs/\(∀k,ae a'=some k->w.heap.size<=k)/\Below w.heap.size w w'
theorem VA(a:Option Addr)(n cap:Nat)(xs:List Value)(w:World)(hR:Rd w a xs)(hx:xs.length=n*1)(h1:∀u∈xs,u.oneCell'=true)(hl:n<=1000000):Calls prog 91 #[.slice a n cap] w (ig w 28 1 n xs):=by
 have Ic:∀(w:World) (a:Option Addr) (n c n' c':Nat),(binOp .eql 22 (.slice a n c) (.slice none n' c')).run prog w=.ok (.bool a.isNone) w:=fun w a n c n' c'=>Lib.run_eql_slice_nil w _ _ a n c n' c' underlying22
 cases a with
 |none=>
  have j8:xs=[]:=by
   rcases xs with _|⟨x,r⟩
   ·rfl
   ·obtain ⟨b,o,h2,_⟩:=hR 0 x rfl
    cases h2
  subst j8;have hn:n=0:=by simp at hx;omega
  subst hn;have HE:Hid (ig w 28 1 0 [] (.returned (.slice none 0 0)) w):=hd ⟨none,0,rfl,Row.nil,fun k hk=>(by cases hk),aak _ _⟩;clear hR hx h1 hl;obtain ⟨Q,hQ⟩:=Haa (ig w 28 1 0 []);rw [hQ.out]at HE⊢;go_enter func91,ntmps91
  go_wp2
  exact HE.out
 |some ad=>
  obtain ⟨i,g1,g2,g3,g4⟩:=info_parts T_;have hb:=aA w (.cells #[] 28);have bI:Row (w.alloc (.cells #[] 28)) 28 1 (some ⟨w.heap.size,0,none⟩) 0 0 []:=by
   have:=mZ (size:=1) (n:=0) (aae w (.cells #[] 28)) rfl (by decide);exact this
  have hs:Src prog 1 22 (.slice (some ad) n cap) n xs (w.alloc (.cells #[] 28)):=Rd.src (hR.below hb) underlying22 hx (by omega) h1;obtain ⟨a',c',w',k1,k2,k3,k4,_⟩:=mD (P:=prog) _ 22 28 i _ 1 8 underlying22 g1 g2 g3 g4 rfl bI _ n _ hs (by unfold maxLen;omega) (by omega)
  have HE:Hid (ig w 28 1 n xs (.returned (.slice a' n c')) w'):=hd ⟨a',c',rfl,by simpa using k2,fun k hk=>by
   rcases k4 k hk with h|h
   ·cases h;exact aag _
   ·have:=hb.size;omega,hb.trans (k3.below (by have:=hb.size;omega) (fun k _ hk=>by cases hk;exact aag _))⟩
  replace k1:Hid (∀ty,(Builtin.append_ #[22,22] ty #[.slice (some ⟨w.heap.size,0,none⟩) 0 0,.slice (some ad) n cap]).run prog (w.alloc (.cells #[] 28))=.ok (.slice a' n c') w'):=hd (by simpa using k1);clear hR bI hs k2 k3 k4 hx h1;obtain ⟨Q,hQ⟩:=Haa (ig w 28 1 n xs);rw [hQ.out]at HE⊢;go_enter func91,ntmps91;go_wp2_with (first|(at_builtin;refine dZ rfl _ _ _ rfl _ _ _ _ rfl rfl k1.out ?_;clear k1));exact HE.out
theorem VB(a:Option Addr)(n cap:Nat)(xs:List Value)(w:World)(hR:Rd w a xs)(hx:xs.length=n*1)(h1:∀u∈xs,u.oneCell'=true)(hl:n<=1000000):Calls prog 57 #[.slice a n cap] w (ig w 3 1 n xs):=by
 have Ic:∀(w:World) (a:Option Addr) (n c n' c':Nat),(binOp .eql 23 (.slice a n c) (.slice none n' c')).run prog w=.ok (.bool a.isNone) w:=fun w a n c n' c'=>Lib.run_eql_slice_nil w _ _ a n c n' c' aaV
 cases a with
 |none=>
  have j8:xs=[]:=by
   rcases xs with _|⟨x,r⟩
   ·rfl
   ·obtain ⟨b,o,h2,_⟩:=hR 0 x rfl
    cases h2
  subst j8;have hn:n=0:=by simp at hx;omega
  subst hn;have HE:Hid (ig w 3 1 0 [] (.returned (.slice none 0 0)) w):=hd ⟨none,0,rfl,Row.nil,fun k hk=>(by cases hk),aak _ _⟩;clear hR hx h1 hl;obtain ⟨Q,hQ⟩:=Haa (ig w 3 1 0 []);rw [hQ.out]at HE⊢;go_enter func57,ntmps57
  go_wp2
  exact HE.out
 |some ad=>
  obtain ⟨i,g1,g2,g3,g4⟩:=info_parts FN;have hb:=aA w (.cells #[] 3);have bI:Row (w.alloc (.cells #[] 3)) 3 1 (some ⟨w.heap.size,0,none⟩) 0 0 []:=by
   have:=mZ (size:=1) (n:=0) (aae w (.cells #[] 3)) rfl (by decide);exact this
  have hs:Src prog 1 23 (.slice (some ad) n cap) n xs (w.alloc (.cells #[] 3)):=Rd.src (hR.below hb) aaV hx (by omega) h1;obtain ⟨a',c',w',k1,k2,k3,k4,_⟩:=mD (P:=prog) _ 23 3 i _ 1 8 aaV g1 g2 g3 g4 rfl bI _ n _ hs (by unfold maxLen;omega) (by omega)
  have HE:Hid (ig w 3 1 n xs (.returned (.slice a' n c')) w'):=hd ⟨a',c',rfl,by simpa using k2,fun k hk=>by
   rcases k4 k hk with h|h
   ·cases h;exact aag _
   ·have:=hb.size;omega,hb.trans (k3.below (by have:=hb.size;omega) (fun k _ hk=>by cases hk;exact aag _))⟩
  replace k1:Hid (∀ty,(Builtin.append_ #[23,23] ty #[.slice (some ⟨w.heap.size,0,none⟩) 0 0,.slice (some ad) n cap]).run prog (w.alloc (.cells #[] 3))=.ok (.slice a' n c') w'):=hd (by simpa using k1);clear hR bI hs k2 k3 k4 hx h1;obtain ⟨Q,hQ⟩:=Haa (ig w 3 1 n xs);rw [hQ.out]at HE⊢;go_enter func57,ntmps57;go_wp2_with (first|(at_builtin;refine dZ rfl _ _ _ rfl _ _ _ _ rfl rfl k1.out ?_;clear k1));exact HE.out
theorem cloneP(a:Option Addr)(n cap:Nat)(xs:List Value)(w:World)(hR:Rd w a xs)(hx:xs.length=n*2)(h1:∀u∈xs,u.oneCell'=true)(hl:n<=1000000):Calls prog 92 #[.slice a n cap] w (ig w 38 2 n xs):=by
 have Ic:∀(w:World) (a:Option Addr) (n c n' c':Nat),(binOp .eql 24 (.slice a n c) (.slice none n' c')).run prog w=.ok (.bool a.isNone) w:=fun w a n c n' c'=>Lib.run_eql_slice_nil w _ _ a n c n' c' underlying24
 cases a with
 |none=>
  have j8:xs=[]:=by
   rcases xs with _|⟨x,r⟩
   ·rfl
   ·obtain ⟨b,o,h2,_⟩:=hR 0 x rfl
    cases h2
  subst j8;have hn:n=0:=by simp at hx;omega
  subst hn;have HE:Hid (ig w 38 2 0 [] (.returned (.slice none 0 0)) w):=hd ⟨none,0,rfl,Row.nil,fun k hk=>(by cases hk),aak _ _⟩;clear hR hx h1 hl;obtain ⟨Q,hQ⟩:=Haa (ig w 38 2 0 []);rw [hQ.out]at HE⊢;go_enter func92,ntmps92
  go_wp2
  exact HE.out
 |some ad=>
  obtain ⟨i,g1,g2,g3,g4⟩:=info_parts Ts;have hb:=aA w (.cells #[] 38);have bI:Row (w.alloc (.cells #[] 38)) 38 2 (some ⟨w.heap.size,0,none⟩) 0 0 []:=by
   have:=mZ (size:=2) (n:=0) (aae w (.cells #[] 38)) rfl (by decide);exact this
  have hs:Src prog 2 24 (.slice (some ad) n cap) n xs (w.alloc (.cells #[] 38)):=Rd.src (hR.below hb) underlying24 hx (by omega) h1;obtain ⟨a',c',w',k1,k2,k3,k4,_⟩:=mD (P:=prog) _ 24 38 i _ 2 32 underlying24 g1 g2 g3 g4 rfl bI _ n _ hs (by unfold maxLen;omega) (by omega)
  have HE:Hid (ig w 38 2 n xs (.returned (.slice a' n c')) w'):=hd ⟨a',c',rfl,by simpa using k2,fun k hk=>by
   rcases k4 k hk with h|h
   ·cases h;exact aag _
   ·have:=hb.size;omega,hb.trans (k3.below (by have:=hb.size;omega) (fun k _ hk=>by cases hk;exact aag _))⟩
  replace k1:Hid (∀ty,(Builtin.append_ #[24,24] ty #[.slice (some ⟨w.heap.size,0,none⟩) 0 0,.slice (some ad) n cap]).run prog (w.alloc (.cells #[] 38))=.ok (.slice a' n c') w'):=hd (by simpa using k1);clear hR bI hs k2 k3 k4 hx h1;obtain ⟨Q,hQ⟩:=Haa (ig w 38 2 n xs);rw [hQ.out]at HE⊢;go_enter func92,ntmps92;go_wp2_with (first|(at_builtin;refine dZ rfl _ _ _ rfl _ _ _ _ rfl rfl k1.out ?_;clear k1));exact HE.out
theorem cloneN(a:Option Addr)(n cap:Nat)(xs:List Value)(w:World)(hR:Rd w a xs)(hx:xs.length=n*5)(h1:∀u∈xs,u.oneCell'=true)(hl:n<=1000000):Calls prog 93 #[.slice a n cap] w (ig w 35 5 n xs):=by
 have Ic:∀(w:World) (a:Option Addr) (n c n' c':Nat),(binOp .eql 36 (.slice a n c) (.slice none n' c')).run prog w=.ok (.bool a.isNone) w:=fun w a n c n' c'=>Lib.run_eql_slice_nil w _ _ a n c n' c' underlying36
 cases a with
 |none=>
  have j8:xs=[]:=by
   rcases xs with _|⟨x,r⟩
   ·rfl
   ·obtain ⟨b,o,h2,_⟩:=hR 0 x rfl
    cases h2
  subst j8;have hn:n=0:=by simp at hx;omega
  subst hn;have HE:Hid (ig w 35 5 0 [] (.returned (.slice none 0 0)) w):=hd ⟨none,0,rfl,Row.nil,fun k hk=>(by cases hk),aak _ _⟩;clear hR hx h1 hl;obtain ⟨Q,hQ⟩:=Haa (ig w 35 5 0 []);rw [hQ.out]at HE⊢;go_enter func93,ntmps93
  go_wp2
  exact HE.out
 |some ad=>
  obtain ⟨i,g1,g2,g3,g4⟩:=info_parts Tr;have hb:=aA w (.cells #[] 35);have bI:Row (w.alloc (.cells #[] 35)) 35 5 (some ⟨w.heap.size,0,none⟩) 0 0 []:=by
   have:=mZ (size:=5) (n:=0) (aae w (.cells #[] 35)) rfl (by decide);exact this
  have hs:Src prog 5 36 (.slice (some ad) n cap) n xs (w.alloc (.cells #[] 35)):=Rd.src (hR.below hb) underlying36 hx (by omega) h1;obtain ⟨a',c',w',k1,k2,k3,k4,_⟩:=mD (P:=prog) _ 36 35 i _ 5 40 underlying36 g1 g2 g3 g4 rfl bI _ n _ hs (by unfold maxLen;omega) (by omega)
  have HE:Hid (ig w 35 5 n xs (.returned (.slice a' n c')) w'):=hd ⟨a',c',rfl,by simpa using k2,fun k hk=>by
   rcases k4 k hk with h|h
   ·cases h;exact aag _
   ·have:=hb.size;omega,hb.trans (k3.below (by have:=hb.size;omega) (fun k _ hk=>by cases hk;exact aag _))⟩
  replace k1:Hid (∀ty,(Builtin.append_ #[36,36] ty #[.slice (some ⟨w.heap.size,0,none⟩) 0 0,.slice (some ad) n cap]).run prog (w.alloc (.cells #[] 35))=.ok (.slice a' n c') w'):=hd (by simpa using k1);clear hR bI hs k2 k3 k4 hx h1;obtain ⟨Q,hQ⟩:=Haa (ig w 35 5 n xs);rw [hQ.out]at HE⊢;go_enter func93,ntmps93;go_wp2_with (first|(at_builtin;refine dZ rfl _ _ _ rfl _ _ _ _ rfl rfl k1.out ?_;clear k1));exact HE.out
theorem Om(a:Option Addr)(n cap:Nat)(xs:List Value)(w:World)(hR:Rd w a xs)(hx:xs.length=n*3)(h1:∀u∈xs,u.oneCell'=true)(hl:n<=1000000):Calls prog 115 #[.slice a n cap] w (ig w 138 3 n xs):=by
 have Ic:∀(w:World) (a:Option Addr) (n c n' c':Nat),(binOp .eql 106 (.slice a n c) (.slice none n' c')).run prog w=.ok (.bool a.isNone) w:=fun w a n c n' c'=>Lib.run_eql_slice_nil w _ _ a n c n' c' underlying106
 cases a with
 |none=>
  have j8:xs=[]:=by
   rcases xs with _|⟨x,r⟩
   ·rfl
   ·obtain ⟨b,o,h2,_⟩:=hR 0 x rfl
    cases h2
  subst j8;have hn:n=0:=by simp at hx;omega
  subst hn;have HE:Hid (ig w 138 3 0 [] (.returned (.slice none 0 0)) w):=hd ⟨none,0,rfl,Row.nil,fun k hk=>(by cases hk),aak _ _⟩;clear hR hx h1 hl;obtain ⟨Q,hQ⟩:=Haa (ig w 138 3 0 []);rw [hQ.out]at HE⊢;go_enter func115,ntmps115
  go_wp2
  exact HE.out
 |some ad=>
  obtain ⟨i,g1,g2,g3,g4⟩:=info_parts MG;have hb:=aA w (.cells #[] 138);have bI:Row (w.alloc (.cells #[] 138)) 138 3 (some ⟨w.heap.size,0,none⟩) 0 0 []:=by
   have:=mZ (size:=3) (n:=0) (aae w (.cells #[] 138)) rfl (by decide);exact this
  have hs:Src prog 3 106 (.slice (some ad) n cap) n xs (w.alloc (.cells #[] 138)):=Rd.src (hR.below hb) underlying106 hx (by omega) h1;obtain ⟨a',c',w',k1,k2,k3,k4,_⟩:=mD (P:=prog) _ 106 138 i _ 3 24 underlying106 g1 g2 g3 g4 rfl bI _ n _ hs (by unfold maxLen;omega) (by omega)
  have HE:Hid (ig w 138 3 n xs (.returned (.slice a' n c')) w'):=hd ⟨a',c',rfl,by simpa using k2,fun k hk=>by
   rcases k4 k hk with h|h
   ·cases h;exact aag _
   ·have:=hb.size;omega,hb.trans (k3.below (by have:=hb.size;omega) (fun k _ hk=>by cases hk;exact aag _))⟩
  replace k1:Hid (∀ty,(Builtin.append_ #[106,106] ty #[.slice (some ⟨w.heap.size,0,none⟩) 0 0,.slice (some ad) n cap]).run prog (w.alloc (.cells #[] 138))=.ok (.slice a' n c') w'):=hd (by simpa using k1);clear hR bI hs k2 k3 k4 hx h1;obtain ⟨Q,hQ⟩:=Haa (ig w 138 3 n xs);rw [hQ.out]at HE⊢;go_enter func115,ntmps115;go_wp2_with (first|(at_builtin;refine dZ rfl _ _ _ rfl _ _ _ _ rfl rfl k1.out ?_;clear k1));exact HE.out
structure iM where
 x:fg
 la:Option Addr
 lc:Nat
 oa:Option Addr
 oc:Nat
 qa:Option Addr
 qc:Nat
 es:List aV.Qe
instance:Inhabited iM:=⟨⟨default,none,0,none,0,none,0,[]⟩⟩
def lh(t:iM):List Value:=[.int .i64 (t.x.cur:Int),.slice t.la t.x.log.length t.lc,.int .i64 t.x.lost,.int .i64 t.x.fC,.slice t.oa t.x.os.length t.oc,.slice t.qa t.x.os.length t.qc]
def Lx(t:iM):Value:=.agg (lh t).toArray
structure tL(B:Nat)(w:World)(t:iM)(F:Nat->Prop):Prop where
 log:Row w 138 3 t.la t.x.log.length t.lc (mU t.x.log)
 own:Row w 3 1 t.oa t.x.os.length t.oc (aV.iC t.x.os)
 ql:aV.QL w B 0 t.qa t.qc t.es
 qs:aV.gE t.es=t.x.qs
 ge:∀k,F k->B<=k
 lt:∀k,F k->k<w.heap.size
 fl:∀k,ae t.la=some k->F k
 fo:∀k,ae t.oa=some k->F k
 fq:∀k,aV.yJ 0 t.qa t.es k->F k
 Q5:∀k,ae t.la=some k->ae t.oa≠some k/\¬aV.yJ 0 t.qa t.es k
 Q6:∀k,ae t.oa=some k->¬aV.yJ 0 t.qa t.es k
variable{w W0 w1:World}{a':Option Addr}{c':Nat}
theorem tL.mod{B:Nat}{w':World}{t:iM}{F S:Nat->Prop}(h:tL B w t F)(hm:Mod S w w')(hn:∀k,F k->¬S k):tL B w' t F:=
 ⟨h.log.mod hm (fun k hk=>hn k (h.fl k hk)),h.own.mod hm (fun k hk=>hn k (h.fo k hk)),h.ql.mod hm (fun k hk=>hn k (h.fq k hk)),h.qs,h.ge,fun k hk=>aam (h.lt k hk) hm.size,h.fl,h.fo,h.fq,h.Q5,h.Q6⟩
def OO(w:World)(x:fg)(E:Ending)(w':World):Prop:=∃t F,E=.returned (Lx t)/\t.x=x/\tL w.heap.size w' t F/\Below w.heap.size w w'
def z66:Array Value:=#[.int .i64 0,.slice none 0 0,.int .i64 0,.int .i64 0,.slice none 0 0,.slice none 0 0]
structure Q8(w:World)(x:fg)(G:Nat)(wy:World)(a':Option Addr)(c':Nat):Prop where
 box:wy.heap[G]?=some (.cells #[.int .i64 (x.cur:Int),.slice a' x.log.length c',.int .i64 x.lost,.int .i64 x.fC,.slice none 0 0,.slice none 0 0] 109 (0,0))
 res:wy.heap[w.heap.size]?=some (.cells z66 109 (0,0))
 row:Row wy 138 3 a' x.log.length c' (mU x.log)
 au:Below w.heap.size w wy
 gt:w.heap.size<G
 new:∀k,ae a'=some k->w.heap.size<k/\k≠G
theorem six_set(v0 v1 v2 v3 v4 v5 u0 u1 u2 u3 u4 u5:Value):(((((#[v0,v1,v2,v3,v4,v5].setIfInBounds 0 u0).setIfInBounds 1 u1).setIfInBounds 2 u2).setIfInBounds 3 u3).setIfInBounds 4 u4).setIfInBounds 5 u5=#[u0,u1,u2,u3,u4,u5]:=by simp
theorem TQ{W:World}{g:Nat}{T:TypeId}{v0 v1 v2 v3 v4 v5:Value}(h:W.heap[g]?=some (.cells #[v0,v1,v2,v3,v4,v5] T (0,0)))(u0 u1 u2 u3 u4 u5:Value):((((((W.setCell ⟨g,0,none⟩ u0).setCell ⟨g,1,none⟩ u1).setCell ⟨g,2,none⟩ u2).setCell ⟨g,3,none⟩ u3).setCell ⟨g,4,none⟩ u4).setCell ⟨g,5,none⟩ u5).heap[g]?=some (.cells #[u0,u1,u2,u3,u4,u5] T (0,0)):=by
 rw [aU (aU (aU (aU (aU (aU h u0) u1) u2) u3) u4) u5,six_set]
theorem U8(W:World)(g:Nat)(u0 u1 u2 u3 u4 u5:Value):Mod (fun k=>k=g) W ((((((W.setCell ⟨g,0,none⟩ u0).setCell ⟨g,1,none⟩ u1).setCell ⟨g,2,none⟩ u2).setCell ⟨g,3,none⟩ u3).setCell ⟨g,4,none⟩ u4).setCell ⟨g,5,none⟩ u5):=
 dz (dz (dz (dz (dz (dP _ _ _ _) _ _) _ _) _ _) _ _) _ _
theorem ptI_first{x:fg}(ai:Below w.heap.size w W0)(bu:W0.heap.size=w.heap.size+1)(kQ:W0.heap[w.heap.size]?=some (.cells z66 109 (0,0)))(r1:Row w1 138 3 a' x.log.length c' (mU x.log))(r2:∀k,ae a'=some k->W0.drew.heap.size<=k)(r3:Below W0.drew.heap.size W0.drew w1):
 Q8 w x w1.heap.size (w1.alloc (.cells #[.int .i64 (x.cur:Int),.slice a' x.log.length c',.int .i64 x.lost,.int .i64 x.fC,.slice none 0 0,.slice none 0 0] 109)) a' c':=by
 have aH:=cC r3;have cD:W0.heap.size<=w1.heap.size:=aH.size;have hr:w1.heap[w.heap.size]?=some (.cells z66 109 (0,0)):=by rw [aH.block _ (by omega)];exact kQ
 have aj:=ai.trans (aH.mono ai.size);refine ⟨aae _ _,by rw [(aA w1 _).block _ (by omega)];exact hr,r1.below (aA w1 _),aj.alloc aj.size _,by omega,fun k hk=> ?_⟩;have h1:W0.heap.size<=k:=r2 k hk;have h2:=r1.lt k hk;omega
theorem ptI_second{x:fg}(ai:Below w.heap.size w W0)(bu:W0.heap.size=w.heap.size+1)(kQ:W0.heap[w.heap.size]?=some (.cells z66 109 (0,0)))(r1:Row w1 138 3 a' x.log.length c' (mU x.log))(r2:∀k,ae a'=some k->(W0.alloc (.cells z66 109)).drew.heap.size<=k)(r3:Below (W0.alloc (.cells z66 109)).drew.heap.size (W0.alloc (.cells z66 109)).drew w1):
 Q8 w x W0.heap.size ((((((w1.setCell ⟨W0.heap.size,0,none⟩ (.int .i64 (x.cur:Int))).setCell ⟨W0.heap.size,1,none⟩ (.slice a' x.log.length c')).setCell ⟨W0.heap.size,2,none⟩ (.int .i64 x.lost)).setCell ⟨W0.heap.size,3,none⟩ (.int .i64 x.fC)).setCell ⟨W0.heap.size,4,none⟩ (.slice none 0 0)).setCell ⟨W0.heap.size,5,none⟩ (.slice none 0 0)) a' c':=by
 have aH:Below W0.heap.size W0 w1:=((aA W0 _).drew).trans (r3.mono (by simp [World.drew]));have cD:W0.heap.size<w1.heap.size:=by have:=r3.size;simp [World.drew]at this;omega
 have hg:w1.heap[W0.heap.size]?=some (.cells z66 109 (0,0)):=by
  have h1:(W0.alloc (.cells z66 109)).drew.heap[W0.heap.size]?=some (.cells z66 109 (0,0)):=aae W0 _;exact (r3.block _ (aab.1 h1).1).trans h1
 have hr:w1.heap[w.heap.size]?=some (.cells z66 109 (0,0)):=by rw [aH.block _ (by omega)];exact kQ
 have aj:=ai.trans (aH.mono ai.size);have hm:=U8 w1 W0.heap.size (.int .i64 (x.cur:Int)) (.slice a' x.log.length c') (.int .i64 x.lost) (.int .i64 x.fC) (.slice none 0 0) (.slice none 0 0);have hn:∀k,ae a'=some k->W0.heap.size<k:=fun k hk=>by have:=r2 k hk;simp [World.drew]at this;omega
 refine ⟨TQ hg _ _ _ _ _ _,by rw [hm.block _ (by omega) (by omega)];exact hr,r1.mod hm (fun k hk e=>by have:=hn k hk;omega),((Mod.aS (fun _=>False) aj).trans hm (fun k e=> .inr (by omega))).below (aag _) (fun k _ hk=>hk.elim),by omega,fun k hk=> ?_⟩;have h1:=hn k hk;omega
section
variable{w w':World} {l:Lay} {m:MS} {U:Nat->Prop} {p q i j:Nat}
theorem pstand_m(h:Mk w l U m)(hs:aG l.c m)(hc:dK l.c)(hi:i<l.c.labels.length):Calls prog 105 #[.pointer (some ⟨l.bp i,0,none⟩)] w (OO w (aM m i)):=by
 have Ay:=hs.log i hi;have H_:=hc.We;obtain ⟨la,lc,k1,_,k3⟩:=h.partAt hi;have ai:=aA w (.cells z66 109)
 have HD:Hid (∀W,Below w.heap.size w W->W.cell? ⟨l.bp i,2,none⟩=some (.int .i64 ((aM m i).cur:Int))/\W.cell? ⟨l.bp i,3,none⟩=some (.slice la (aM m i).log.length lc)/\W.cell? ⟨l.bp i,4,none⟩=some (.int .i64 (aM m i).lost)/\W.cell? ⟨l.bp i,5,none⟩=some (.int .i64 (aM m i).fC)):=hd (fun W hb=>by
  have hk:W.heap[l.bp i]?=some (.cells (rH l i (aM m i) la lc) 178 (0,0)):=by rw [hb.block _ (aab.1 k1).1];exact k1
  refine ⟨?_, ?_, ?_, ?_⟩<;>(rw [aaa _ _ _ _ _ _ hk];rfl))
 obtain ⟨W0,aD⟩:=Haa (w.alloc (.cells z66 109));have CF:W0.heap.size=w.heap.size+1:=by rw [<-aD.out];simp
 have kQ:W0.heap[w.heap.size]?=some (.cells z66 109 (0,0)):=by rw [<-aD.out];exact aae w _
 rw [aD.out]at ai;have bH:Below w.heap.size w W0.drew:=ai.drew;have fe:Below w.heap.size w (W0.alloc (.cells z66 109)).drew:=(ai.alloc ai.size _).drew;have iy:=Om la (aM m i).log.length lc (mU (aM m i).log) W0.drew (k3.below bH).rd (NT _) (NU _) (by omega);have kT:=Om la (aM m i).log.length lc (mU (aM m i).log) (W0.alloc (.cells z66 109)).drew (k3.below fe).rd (NT _) (NU _) (by omega);obtain ⟨d2,d3,d4,d5⟩:=HD.out W0 ai
 have HZ:Hid (∀W,Below (W0.alloc (.cells z66 109)).drew.heap.size (W0.alloc (.cells z66 109)).drew W->W.heap[W0.heap.size]?=some (.cells z66 109 (0,0))):=hd (fun W hW=>by
  have h1:(W0.alloc (.cells z66 109)).drew.heap[W0.heap.size]?=some (.cells z66 109 (0,0)):=aae W0 _
  exact (hW.block _ (aab.1 h1).1).trans h1)
 have Q9:Hid (∀(W:World) (g:Nat),W.heap[g]?=some (.cells z66 109 (0,0))->W.cell? ⟨g,0,none⟩=some (.int .i64 0)/\W.cell? ⟨g,1,none⟩=some (.slice none 0 0)/\W.cell? ⟨g,2,none⟩=some (.int .i64 0)/\W.cell? ⟨g,3,none⟩=some (.int .i64 0)/\W.cell? ⟨g,4,none⟩=some (.slice none 0 0)/\W.cell? ⟨g,5,none⟩=some (.slice none 0 0)/\W.frozen? ⟨g,0,none⟩=false/\W.frozen? ⟨g,1,none⟩=false/\W.frozen? ⟨g,2,none⟩=false/\W.frozen? ⟨g,3,none⟩=false/\W.frozen? ⟨g,4,none⟩=false/\W.frozen? ⟨g,5,none⟩=false):=hd (fun W g h1=>⟨aaa W g 0 _ _ _ h1,aaa W g 1 _ _ _ h1,aaa W g 2 _ _ _ h1,aaa W g 3 _ _ _ h1,aaa W g 4 _ _ _ h1,aaa W g 5 _ _ _ h1,by simp [World.frozen?,h1],by simp [World.frozen?,h1],by simp [World.frozen?,h1],by simp [World.frozen?,h1],by simp [World.frozen?,h1],by simp [World.frozen?,h1]⟩);have Kr:l.bp i≠W0.heap.size:=by have:=(aab.1 k1).1;omega
 have Px:W0.heap.size≠l.bp i:=fun e=>Kr e.symm
 have HK:=hd h;have HS:=hd hs;have HC:=hd hc;have HI:=hd hi;obtain ⟨Q,hQ⟩:=Haa (OO w (aM m i));rw [hQ.out];obtain ⟨x,hx⟩:=Haa (aM m i);rw [hx.out]at HD iy kT d2 d3 d4 d5 hQ Ay;replace CF:=hd CF;clear h hs hc hi k1 k3;unfold z66 at aD kT HZ Q9 fe;go_enter func105,ntmps105;go_upto_region 1 with fail;rw [aD.out];go_cut [3] (fun v3 wy=>∃G,v3=.pointer (some ⟨G,0,none⟩)/\Hid (∃a' c',Q8 w x G wy a' c'))
 case first=>
  go_region_held3 (fun w'=>w'.cell? ⟨l.bp i,2,none⟩=some (.int .i64 (x.cur:Int))/\w'.cell? ⟨l.bp i,3,none⟩=some (.slice la x.log.length lc)/\w'.cell? ⟨l.bp i,4,none⟩=some (.int .i64 x.lost)/\w'.cell? ⟨l.bp i,5,none⟩=some (.int .i64 x.fC)) (go_keep)
   (first
    |(go_at_call 115;(with_reducible refine iy.mono ?_);rintro e w1 ⟨a',c',rfl,r1,r2,r3⟩;obtain ⟨g2,g3,g4,g5⟩:=HD.out w1 (bH.trans (r3.mono bH.size));have Q_:=hd (ptI_first ai CF.out kQ r1 r2 r3);clear r1 r2 r3)
    |(go_at_call 115;(with_reducible refine kT.mono ?_);rintro e w1 ⟨a',c',rfl,r1,r2,r3⟩;obtain ⟨g2,g3,g4,g5⟩:=HD.out w1 (fe.trans (r3.mono fe.size));obtain ⟨z0,z1,z2,z3,z4,z5,y0,y1,y2,y3,y4,y5⟩:=Q9.out w1 W0.heap.size (HZ.out w1 r3);have Q_:=hd (ptI_second ai CF.out kQ r1 r2 r3);clear r1 r2 r3))
  ·go_wp2_with fail;go_meet
   case rel=>exact ⟨_,rfl,hd ⟨a',c',Q_.out⟩⟩
  ·go_wp2_with fail;go_meet
   case rel=>exact ⟨_,rfl,hd ⟨a',c',Q_.out⟩⟩
 case rest=>
  obtain ⟨G,rfl,HX⟩:=hcut;obtain ⟨a',c',hI⟩:=HX.out;clear HX iy kT d2 d3 d4 d5 HZ Q9 HD ai bH fe kQ Kr Px;have k1:=HK.out.below hI.au;have n6:=(k1.vH HI.out).2.2.2.2.2.1;obtain ⟨F,hF,-⟩:=k1.kB HI.out;have aJ:=aV.MV hF (aai ((HS.out.Ig HI.out).total HC.out) (by decide));rw [hx.out]at aJ;have b0:∀W,Below wc.heap.size wc W->W.heap[G]?=some (.cells #[.int .i64 (x.cur:Int),.slice a' x.log.length c',.int .i64 x.lost,.int .i64 x.fC,.slice none 0 0,.slice none 0 0] 109 (0,0))/\W.heap[w.heap.size]?=some (.cells z66 109 (0,0)):=fun W hb=>⟨by rw [hb.block _ (aab.1 hI.box).1];exact hI.box,by rw [hb.block _ (aab.1 hI.res).1];exact hI.res⟩
  have HB:=hd b0;have Dh:=hd hI;clear b0 hI k1 hF;go_upto_region 3 with(go_at_call 123;refine aJ.mono ?_;rintro e w2 ⟨a1,c1,a2,c2,es,rfl,hT⟩;obtain ⟨B1,B2⟩:=HB.out w2 hT.au;have u0:=aaa w2 G 0 _ _ _ B1;have u1:=aaa w2 G 1 _ _ _ B1;have u2:=aaa w2 G 2 _ _ _ B1;have u3:=aaa w2 G 3 _ _ _ B1;have u4:=aaa w2 G 4 _ _ _ B1;have u5:=aaa w2 G 5 _ _ _ B1;have uf:∀j,w2.frozen? ⟨G,j,none⟩=false:=(fun j=>by simp [World.frozen?,B1]);replace B1:=hd B1;replace B2:=hd B2;replace hT:=hd hT);obtain ⟨V,hV⟩:=Haa ((w2.setCell ⟨G,4,none⟩ (.slice a1 x.os.length c1)).setCell ⟨G,5,none⟩ (.slice a2 x.os.length c2));rw [hV.out];have ER:Mod (fun k=>k=G) w2 V:=by rw [<-hV.out];exact dz (dP _ _ _ _) _ _
  have gy:V.heap[G]?=some (.cells #[.int .i64 (x.cur:Int),.slice a' x.log.length c',.int .i64 x.lost,.int .i64 x.fC,.slice a1 x.os.length c1,.slice a2 x.os.length c2] 109 (0,0)):=by
   rw [<-hV.out,aU (aU B1.out _) _];rfl
  have Ra:=Dh.out.gt;have dN:V.heap[w.heap.size]?=some (.cells z66 109 (0,0)):=by
   rw [ER.block _ (aab.1 B2.out).1 (by omega)];exact B2.out
  have HO:Hid (Q (.returned (.agg #[.int .i64 (x.cur:Int),.slice a' x.log.length c',.int .i64 x.lost,.int .i64 x.fC,.slice a1 x.os.length c1,.slice a2 x.os.length c2])) ((((((V.setCell ⟨w.heap.size,0,none⟩ (.int .i64 (x.cur:Int))).setCell ⟨w.heap.size,1,none⟩ (.slice a' x.log.length c')).setCell ⟨w.heap.size,2,none⟩ (.int .i64 x.lost)).setCell ⟨w.heap.size,3,none⟩ (.int .i64 x.fC)).setCell ⟨w.heap.size,4,none⟩ (.slice a1 x.os.length c1)).setCell ⟨w.heap.size,5,none⟩ (.slice a2 x.os.length c2))):=hd (by
   rw [<-hQ.out];have EN:=U8 V w.heap.size (.int .i64 (x.cur:Int)) (.slice a' x.log.length c') (.int .i64 x.lost) (.int .i64 x.fC) (.slice a1 x.os.length c1) (.slice a2 x.os.length c2);have fS:=Dh.out.au;have mT:=hT.out.au.size;have hcs:=fS.size;have qz:=(aab.1 Dh.out.box).1;have rJ:Mod (fun k=>k=G\/k=w.heap.size) w2 _:=(ER.mono (fun k _ e=> .inl e)).trans (EN.mono (fun k _ e=> .inr e):Mod (fun k=>k=G\/k=w.heap.size) _ _) (fun k hk=> .inl hk);have kU:=hT.out.ql;have PA:=kU.ge;have Ph:=kU.lt;have qi:=hT.out.new;have ky:=Dh.out.new;have jA:=Dh.out.row.lt;refine ⟨⟨x,a',c',a1,c1,a2,c2,es⟩,fun k=>ae a'=some k\/ae a1=some k\/aV.yJ 0 a2 es k,rfl,hx.out▸rfl,⟨?_, ?_, ?_, ?_, ?_, ?_,fun k hk=> .inl hk,fun k hk=> .inr (.inl hk),fun k hk=> .inr (.inr hk), ?_,fun k hk=>(qi k hk).2⟩, ?_⟩
   ·exact (Dh.out.row.below hT.out.au).mod rJ (fun k hk e=>by have:=ky k hk;rcases e with e|e<;>omega)
   ·exact hT.out.own.mod rJ (fun k hk e=>by have:=(qi k hk).1;rcases e with e|e<;>omega)
   ·have h1:=kU.mod rJ (fun k hk e=>by have:=PA k hk;rcases e with e|e<;>omega);exact ⟨h1.row,h1.qs,fun k hk=>aai hcs (h1.nb k hk),fun i a b k hk=>⟨aai hcs (h1.qb i a b k hk).1,(h1.qb i a b k hk).2⟩,h1.qq⟩
   ·exact hT.out.qs
   ·rintro k (hk|hk|hk)
    ·have:=ky k hk;omega
    ·have:=(qi k hk).1;omega
    ·have:=PA k hk;omega
   ·have cD:=rJ.size;rintro k (hk|hk|hk)
    ·have:=jA k hk;omega
    ·have:=hT.out.own.lt k hk;omega
    ·have:=Ph k hk;omega
   ·intro k hk;have h1:=jA k hk;exact ⟨fun e=>by have:=(qi k e).1;omega,fun e=>by have:=PA k e;omega⟩
   ·exact ((Mod.aS (fun _=>False) (fS.trans (hT.out.au.mono hcs))).trans rJ (fun k hk=> .inr (by rcases hk with e|e<;>omega))).below (aag _) (fun k _ hk=>hk.elim))
  have v0:=aaa V G 0 _ _ _ gy;have v1:=aaa V G 1 _ _ _ gy;have v2:=aaa V G 2 _ _ _ gy;have v3:=aaa V G 3 _ _ _ gy;have v4:=aaa V G 4 _ _ _ gy;have v5:=aaa V G 5 _ _ _ gy;unfold z66 at dN;have z0:=aaa V w.heap.size 0 _ _ _ dN;have z1:=aaa V w.heap.size 1 _ _ _ dN;have z2:=aaa V w.heap.size 2 _ _ _ dN;have z3:=aaa V w.heap.size 3 _ _ _ dN;have z4:=aaa V w.heap.size 4 _ _ _ dN;have z5:=aaa V w.heap.size 5 _ _ _ dN;have zf:∀j,V.frozen? ⟨w.heap.size,j,none⟩=false:=fun j=>by simp [World.frozen?,dN]
  have kg:=hd (TQ dN (.int .i64 (x.cur:Int)) (.slice a' x.log.length c') (.int .i64 x.lost) (.int .i64 x.fC) (.slice a1 x.os.length c1) (.slice a2 x.os.length c2));clear hV ER gy dN u0 u1 u2 u3 u4 u5 uf B1 B2 hT Dh HB aJ n6;go_wp2_with fail;refine aar (v:=.agg #[.int .i64 (x.cur:Int),.slice a' x.log.length c',.int .i64 x.lost,.int .i64 x.fC,.slice a1 x.os.length c1,.slice a2 x.os.length c2]) ?_ rfl HO.out;have y0:=aaa _ w.heap.size 0 _ _ _ kg.out;have y1:=aaa _ w.heap.size 1 _ _ _ kg.out;have y2:=aaa _ w.heap.size 2 _ _ _ kg.out;have y3:=aaa _ w.heap.size 3 _ _ _ kg.out;have y4:=aaa _ w.heap.size 4 _ _ _ kg.out;have y5:=aaa _ w.heap.size 5 _ _ _ kg.out;clear HO kg v0 v1 v2 v3 v4 v5 z0 z1 z2 z3 z4 z5 zf;generalize World.setCell _ _ _=Wf at*
  simp at y0 y1 y2 y3 y4 y5;simp [results,results105,go_sem,y0,y1,y2,y3,y4,y5]
end
open Go.RowKit Go.Maps
def Aq(w:World)(b:Nat)(F:Nat->Prop)(l:List Nat):Prop:=∃a cap mb,w.heap[b]?=some (.cells #[.slice a l.length cap,.map (some mb)] 205 (0,0))/\Row w 28 1 a l.length cap (fJ l)/\F b/\∀k,ae a=some k->F k
def Ks(w:World)(b:Nat)(F:Nat->Prop)(l:List Int):Prop:=∃a cap,w.heap[b]?=some (.cells #[.slice a l.length cap] 126 (0,0))/\Row w 3 1 a l.length cap (iC l)/\F b/\∀k,ae a=some k->F k
def DZ(w:World)(P:World->Nat->(Nat->Prop)->Prop)(E:Ending)(w':World):Prop:=∃b F,E=.returned (.tuple #[.pointer (some ⟨b,0,none⟩),.int .i64 0,.int .i64 0])/\P w' b F/\(∀k,F k->w.heap.size<=k/\k<w'.heap.size)/\Below w.heap.size w w'
variable{w w' w1 w2:World}{B cp i c bw:Nat}{a:Option Addr}{l:List Nat}{FW:Nat->Prop}
theorem ownsMap_below{H:Type}{R:Value->Option (DataW H×List MemPlace)}{k:TypeId}{b n:Nat}{D:DataW H}(h:w.ownsMap prog k R b n D)(hb:Below B w w')(af:b<B):w'.ownsMap prog k R b n D:=by
 have e:=hb.block b af;unfold World.ownsMap at*
 rw [e];exact h
theorem law_u64:Keyed prog 28:=int_keyed underlying28
theorem run_mkU(n:Nat)(w:World):(Instr.makeMap 203 (some (.int .i64 n))).run prog w=.ok (.map (some w.heap.size)) (w.alloc (.map #[] 0)):=by
 simp [Instr.makeMap,run_underlying underlying203,asInt,asIntOf]
structure CG(B:Nat)(w:World)(tb:Nat)(a:Option Addr)(cap mb:Nat)(l:List Nat)(k:Nat):Prop where
 hd:w.heap[tb]?=some (.cells #[.slice a l.length cap,.map (some mb)] 205 (0,0))
 row:Row w 28 1 a l.length cap (fJ l)
 own:∃D:DataW Unit,w.ownsMap prog 28 (plainElem prog 3) mb k D
 bt:B<=tb
 bl:∀k,ae a=some k->B<=k
 bm:B<=mb
 Io:tb≠mb
 Ip:ae a≠some mb
theorem tbTo_a(hs:B<=w1.heap.size)(hr:Row w1 28 1 a l.length cp (fJ l))(hg:∀k,ae a=some k->B<=k):
 CG B ((w1.alloc (.map #[] 0)).alloc (.cells #[.slice a l.length cp,.map (some w1.heap.size)] 205)) (w1.heap.size+1) a cp w1.heap.size l 0 where
 hd:=by
  have:=aae (w1.alloc (.map #[] 0)) (.cells #[.slice a l.length cp,.map (some w1.heap.size)] 205)
  have e:(w1.alloc (.map #[] 0)).heap.size=w1.heap.size+1:=by simp
  rw [e]at this;exact this
 row:=(hr.below (aA w1 _)).below (aA _ _)
 own:=⟨_,(World.ownsMap_made _ _ _ _).alloc _⟩
 bt:=by omega
 bl:=hg
 bm:=hs
 Io:=by omega
 Ip:=fun e=>by have:=hr.lt _ e;omega
theorem tbTo_b{w0:World}(hb:Below (w0.alloc (.map #[] 0)).heap.size (w0.alloc (.map #[] 0)) w1)(hs:B<=w0.heap.size)(hg:∀k,ae a=some k->(w0.alloc (.map #[] 0)).heap.size<=k)(hr:Row w1 28 1 a l.length cp (fJ l)):
 CG B (w1.alloc (.cells #[.slice a l.length cp,.map (some w0.heap.size)] 205)) w1.heap.size a cp w0.heap.size l 0 where
 hd:=aae w1 _
 row:=hr.below (aA w1 _)
 own:=⟨_,(ownsMap_below (World.ownsMap_made w0 _ _ _) hb (by simp)).alloc _⟩
 bt:=by have:=hb.size;simp at this;omega
 bl:=fun k hk=>by have:=hg k hk;simp at this;omega
 bm:=hs
 Io:=by have:=hb.size;simp at this;omega
 Ip:=fun e=>by have:=hg _ e;simp at this;omega
theorem CG.put{k:Nat}{tb:Nat}{mb:Nat}{D:DataW Unit}(h:CG B w tb a cp mb l k)(d_:w1.ownsMap prog 28 (plainElem prog 3) mb (k+1) D)(hg:w.grownBy w1 (some mb)):CG B w1 tb a cp mb l (k+1)where
 hd:=by rw [hg.block _ (aab.1 h.hd).1 (fun e=>h.Io (aau e))];exact h.hd
 row:=h.row.mod (aZ.zH hg) (fun k hk e=>h.Ip (by rw [hk,e]))
 own:=⟨D,d_⟩
 bt:=h.bt
 bl:=h.bl
 bm:=h.bm
 Io:=h.Io
 Ip:=h.Ip
theorem tnew_any(a:Option Addr)(cap:Nat)(l:List Nat)(w:World)(hC:Rd w a (fJ l))(PB:(fN l).1=0)(hw:∀x∈l,x<18446744073709551616):
 Calls prog 88 #[.slice a l.length cap] w (DZ w (fun W b F=>Aq W b F l)):=by
 have iG:=Nc a cap l w hC;have hlen:=BT PB;rw [PB]at iG;have G4:∀i,l.getD i 0<18446744073709551616:=fun i=>by
  rcases aaU i l.length with h|h
  ·rw [aac,aad h];exact hw _ (aaG h)
  ·rw [aac,aas h];decide
 have iJ:=run_mkU l.length;have bZ:∀W,Below w.heap.size w W->Calls prog 91 #[.slice a l.length cap] W (ig W 28 1 l.length (fJ l)):=fun W hb=>VA a l.length cap _ W (hC.below hb) (T9 l) (Na l) (by omega)
 obtain ⟨b,off,rfl,hc⟩:=N_ hC (by omega);replace hc:=hd hc;clear hC PB hw;go_enter func88,ntmps88;go_upto_region 4 with(go_at_call 38;refine iG.mono ?_;rintro e w0 ⟨rfl,hd⟩;have ai:Below w.heap.size w w0:=by(obtain ⟨n,rfl⟩:=hd;exact below_drewN (aak _ _) n));clear hd;go_cut [7]from 19 to 25 (fun s wx=>∃tb a' cp mb,s=.pointer (some ⟨tb,0,none⟩)/\CG w.heap.size wx tb a' cp mb l 0/\Below w.heap.size w wx)
 case first=>
  go_region_with (go_at_call 91;refine (bZ _ ?_).mono ?_;(first|exact ai.drew|exact ai.drew.alloc (by simpa using ai.size) _);rintro e w1 ⟨a',cp,rfl,bI,ko,aH⟩)
  ·go_wp2_with fail;go_meet
   case rel=>
    have gi:w0.heap.size<=w1.heap.size:=aH.size;have bu:w.heap.size<=w0.heap.size:=ai.size;exact ⟨_,_,_,_,rfl,tbTo_a (by omega) bI (fun k hk=>aai bu (ko k hk)),((ai.drew.trans (aH.mono bu)).alloc (by omega) _).alloc (by simp;omega) _⟩
  ·go_wp2_with fail;go_meet
   case rel=>
    have bu:w.heap.size<=w0.heap.size:=ai.size;have Gw:Below (w0.alloc (.map #[] 0)).heap.size (w0.alloc (.map #[] 0)) w1:=((aak _ _).drew).trans aH;have hs1':=Gw.size;simp at hs1';exact ⟨_,_,_,_,rfl,tbTo_b Gw bu ko bI,(((ai.alloc bu _).trans (Gw.mono (by simp;omega))).alloc (by omega) _)⟩
 case rest=>
  obtain ⟨tb,a',cp,mb,rfl,hT,Ef⟩:=hcut;clear ai iG bZ
  go_wp2
  go_loopw [28] (fun i wr=>∃k:Nat,k<=l.length/\i=.int .i64 k/\CG w.heap.size wr tb a' cp mb l k/\Below w.heap.size w wr) (fun i _=>l.length-(intOf i).toNat)
  case atStart=>exact ⟨0,aaq _,rfl,hT,Ef⟩
  case round=>
   obtain ⟨k,hk,rfl,xD,jh⟩:=hrel;clear hT Ef;by_cases af:k<l.length
   ·have j8:=hc.out k af;have hx:wr.cell? ⟨b,off+k,none⟩=some (.int .u64 (l.getD k 0:Nat)):=(jh.cell (aaj w _ j8)).trans j8;have iy:wr.cell? ⟨tb,1,none⟩=some (.map (some mb)):=by rw [aaa _ _ _ _ _ _ xD.hd];rfl
    obtain ⟨D,d_⟩:=xD.own;have Rb:(Lit.int .u64 ((l.getD k 0:Nat):Int)).wf=true:=WalkArith.wf_u64 (by have:=G4 k;omega);have Cx:keyOf prog 28 (.int .u64 (l.getD k 0:Nat))=some (.int .u64 (l.getD k 0:Nat)):=keyOf_int_mk underlying28 Rb;generalize l.getD k 0=x at hx Cx;clear Rb j8;go_wp2_with (first|(at_mapUpdate;refine wpList_mapUpdate_own _ rfl _ _ _ 203 rfl 28 3 law_u64 underlying203 _ mb k _ rfl d_ (by unfold maxLen;omega) _ _ _ rfl rfl Cx _ [] (plainElem_int aaY (WalkArith.wf_i64 (by omega))) ?_;intro w1 lD tG)|go_in)
    go_roundw
    case rel=>exact ⟨k+1,by omega,by go_num,xD.put lD tG,jh.grown tG jh.size (fun j hj=>by cases hj;exact xD.bm)⟩
    case measure=>simp [intOf];omega
   ·have e:k=l.length:=by omega
    subst e
    go_wp2
    go_ret3
    refine ⟨tb,fun k=>k=tb\/ae a'=some k,rfl,⟨a',cp,mb,xD.hd,xD.row,.inl rfl,fun k hk=> .inr hk⟩,fun k hk=> ?_,jh⟩;rcases hk with rfl|hk
    ·exact ⟨xD.bt,(aab.1 xD.hd).1⟩
    ·exact ⟨xD.bl k hk,xD.row.lt k hk⟩
theorem slnew_any(a:Option Addr)(cap:Nat)(l:List Int)(P:Int)(w:World)(hC:Rd w a (iC l))(h1:1<=P)(h2:P<=8)(h0:1<=l.length)(h3:l.length<=64)(h5:∀i,i<l.length->0<=l.getD i 0/\l.getD i 0<P):
 Calls prog 39 #[.slice a l.length cap,.int .i64 P] w (DZ w (fun W b F=>Ks W b F l)):=by
 have h1d:decide (P<1)=false:=by simp;omega
 have XK:decide (8<P)=false:=by simp;omega
 have h3d:((l.length:Int)==0)=false:=by rw [abh];omega
 have vf:(l.length:Int)<=64:=by omega
 have h4d:decide ((64:Int)<(l.length:Int))=false:=by simp;omega
 replace h5:=hd h5;have bZ:=VB a l.length cap _ w hC (oo l) (tH l) (by omega);obtain ⟨b,off,rfl,hc⟩:∃b off,a=some ⟨b,off,none⟩/\Hid (∀i,i<l.length->w.cell? ⟨b,off+i,none⟩=some (.int .i64 (l.getD i 0))):=by
  obtain ⟨b,o,rfl,_⟩:=hC 0 _ (rW l 0 (by omega));refine ⟨b,o,rfl,hd (fun i hi=> ?_)⟩;obtain ⟨b',o',e,hc⟩:=hC i _ (rW l i hi)
  cases e
  exact hc
 clear hC;go_enter func39,ntmps39
 go_wp2
 go_loop [25] (fun i=>∃k:Nat,k<=l.length/\i=.int .i64 k) (fun i=>l.length-(intOf i).toNat)
 case atStart=>exact ⟨0,aaq _,rfl⟩
 case round=>
  obtain ⟨k,hk,rfl⟩:=hrel;by_cases af:k<l.length
  ·have hx:=hc.out k af;have fI:(k:Int)<(l.length:Int):=by omega
   have hb:=hd (h5.out k af);generalize l.getD k 0=x at*
   obtain ⟨o1,o2⟩:=hb.out;have uk:decide (x<0)=false:=by simp;omega
   have lM:decide (P<=x)=false:=by simp;omega
   clear hb
   go_wp2
   go_round
   case rel=>exact ⟨k+1,by omega,by go_num⟩
   case measure=>simp [intOf];omega
  ·have ek:k=l.length:=by omega
   subst ek;go_wp2_with fail;refine bZ.mono ?_;rintro e w1 ⟨a',cp,rfl,bI,ko,aH⟩
   go_wp2
   go_ret3
   refine ⟨_,fun k=>k=w1.heap.size\/ae a'=some k,rfl,⟨a',cp,aae w1 _,bI.below (aA w1 _),.inl rfl,fun k hk=> .inr hk⟩,fun k hk=> ?_,aH.alloc aH.size _⟩;have hs:=aH.size;rcases hk with rfl|hk
   ·exact ⟨hs,by simp⟩
   ·have:=bI.lt k hk;exact ⟨ko k hk,by simp;omega⟩
structure Di(w:World)(t:iM):Prop where
 log:Rd w t.la (mU t.x.log)
 own:Rd w t.oa (aV.iC t.x.os)
 ql:aV.CX w t.qa t.es
 qs:aV.gE t.es=t.x.qs
 ne:t.es.length=t.x.os.length
theorem Di.below{t:iM}(h:Di w t)(hb:Below w.heap.size w w'):Di w' t:=⟨h.log.below hb,h.own.below hb,h.ql.below hb,h.qs,h.ne⟩
def Rc(i:Nat)(x:fg)(a:Option Addr)(c:Nat)(lk:Option Addr)(bw:Nat):Array Value:=#[.int .i64 (i:Int),.slice none 0 0,.int .i64 (x.cur:Int),.slice a x.log.length c,.int .i64 x.lost,.int .i64 x.fC,.pointer lk,.pointer (some ⟨bw,0,none⟩)]
structure Ly(w:World)(i:Nat)(x:fg)(wy:World)(G:Nat)(a:Option Addr)(c bw:Nat)(FW:Nat->Prop):Prop where
 hd:wy.heap[G]?=some (.cells (Rc i x a c none bw) 178 (0,0))
 row:Row wy 138 3 a x.log.length c (mU x.log)
 wh:aZ.Wh wy bw FW []
 au:Below w.heap.size w wy
 gG:w.heap.size<=G
 ga:∀k,ae a=some k->w.heap.size<=k/\k≠G/\¬FW k
 gW:∀k,FW k->w.heap.size<=k/\k≠G
structure Kt(w:World)(i:Nat)(x:fg)(w':World)(G:Nat)(a:Option Addr)(c bw:Nat)(FW:Nat->Prop)(bl:Nat)(FL:Nat->Prop):Prop where
 hd:w'.heap[G]?=some (.cells (Rc i x a c (some ⟨bl,0,none⟩) bw) 178 (0,0))
 row:Row w' 138 3 a x.log.length c (mU x.log)
 wh:aZ.Wh w' bw FW []
 lk:aV.Lk w' bl FL x.os x.qs
 au:Below w.heap.size w w'
 gG:w.heap.size<=G
 ga:∀k,ae a=some k->w.heap.size<=k/\k≠G/\¬FW k/\¬FL k
 gW:∀k,FW k->w.heap.size<=k/\k≠G/\¬FL k
 gL:∀k,FL k->w.heap.size<=k/\k≠G
def OP(w:World)(i:Nat)(x:fg)(E:Ending)(w':World):Prop:=∃G a c bw FW bl FL,E=.returned (.pointer (some ⟨G,0,none⟩))/\Kt w i x w' G a c bw FW bl FL
theorem lpI_a{W0:World}{x:fg}(ai:Below w.heap.size w W0)(r1:Row w1 138 3 a x.log.length c (mU x.log))(r2:∀k,ae a=some k->W0.drew.heap.size<=k)(r3:Below W0.drew.heap.size W0.drew w1)(v1:aZ.Wh w2 bw FW [])(v2:∀k,FW k->w1.heap.size<=k)(v3:Below w1.heap.size w1 w2):
 Ly w i x (w2.alloc (.cells (Rc i x a c none bw) 178)) w2.heap.size a c bw FW:=by
 have h1:=cC r3;have bu:=ai.size;have gi:W0.heap.size<=w1.heap.size:=h1.size;have mT:=v3.size;have aj:=(ai.trans (h1.mono bu)).trans (v3.mono (by omega));have Iq:=r1.lt;have vF:=v1.lt
 exact ⟨aae w2 _,(r1.below v3).below (aA w2 _),v1.below (aA w2 _),aj.alloc aj.size _,by omega,fun k hk=>by
  have e1:W0.heap.size<=k:=r2 k hk;have e2:=Iq k hk;exact ⟨by omega,by omega,fun hf=>by have:=v2 k hf;omega⟩,fun k hk=>by
  have:=v2 k hk;have:=vF k hk
  exact ⟨by omega,by omega⟩⟩
theorem Ly.done{wy:World}{x:fg}{G:Nat}{bl:Nat}{FL:Nat->Prop}(h:Ly w i x wy G a c bw FW)(hb:Below wy.heap.size wy w2)(hl:aV.Lk w2 bl FL x.os x.qs)(hn:∀k,FL k->wy.heap.size<=k):Kt w i x (w2.setCell ⟨G,6,none⟩ (.pointer (some ⟨bl,0,none⟩))) G a c bw FW bl FL:=by
 have hm:Mod (fun k=>k=G) w2 (w2.setCell ⟨G,6,none⟩ (.pointer (some ⟨bl,0,none⟩))):=dP _ _ _ _;have hG:G<wy.heap.size:=(aab.1 h.hd).1;have hsy:=h.au.size;have jA:=h.row.lt;have vF:=h.wh.lt;have ES:=h.gG;refine ⟨?_,(h.row.below hb).mod hm (fun k hk=>(h.ga k hk).2.1),(h.wh.below hb).mod hm (fun k hk=>(h.gW k hk).2),hl.mod hm (fun k hk e=>by have:=hn k hk;omega), ?_,h.gG,fun k hk=>⟨(h.ga k hk).1,(h.ga k hk).2.1,(h.ga k hk).2.2,fun hf=>by have:=hn k hf;have:=jA k hk;omega⟩,fun k hk=>⟨(h.gW k hk).1,(h.gW k hk).2,fun hf=>by have:=hn k hf;have:=vF k hk;omega⟩,fun k hk=>⟨by have:=hn k hk;omega,by have:=hn k hk;omega⟩⟩
 ·have e1:w2.heap[G]?=_:=(hb.block G hG).trans h.hd;rw [aU e1];rfl
 ·have h2:=h.au.trans (hb.mono hsy);exact ((Mod.aS (fun _=>False) h2).trans hm (fun k hk=> .inr (by omega))).below (aag _) (fun k _ hk=>hk.elim)
theorem laidPart_any(i:Nat)(t:iM)(w:World)(hR:Di w t)(hl:t.x.log.length<=4096)(h8:t.x.os.length<=8)(jj:∀o∈t.x.os,aV.ic o)(oZ:∀i,∀p∈aV.aW t.x.qs i,aV.ic p)(ht:aV.total t.x.qs<6000000000000)(PD:aV.qN [] t.x.os t.x.qs=true):
 Calls prog 89 #[.int .i64 (i:Int),Lx t] w (OP w i t.x):=by
 have ai:=aA w (.cells (lh t).toArray 109);have oJ:=aae w (.cells (lh t).toArray 109);obtain ⟨x,la,lc,oa,oc,qa,qc,es⟩:=t;obtain ⟨vE,j9,Re,yL,Rf⟩:=hR;simp only at vE j9 Re yL Rf hl h8 jj oZ ht PD⊢
 have Xj:Hid (∀W,Below w.heap.size w W->Calls prog 117 #[.slice oa x.os.length oc,.slice qa x.os.length qc] W fun E w'=>∃bl FL,E=.returned (.tuple #[.pointer (some ⟨bl,0,none⟩),.int .i64 0])/\Below W.heap.size W w'/\aV.Lk w' bl FL x.os x.qs/\∀k,FL k->W.heap.size<=k):=hd (fun W hb=>by
  have h1:=aV.NM (c1:=oc) (c2:=qc) (n:=x.os.length) (j9.below hb) (Re.below hb) (hd rfl) (hd Rf) h8 jj (by rw [yL];exact oZ) (by rw [yL];exact ht);rw [yL,PD]at h1;refine h1.mono ?_;rintro E w' ⟨g1,⟨g2,_⟩|⟨_,b,F,rfl,g3,g4⟩⟩
  ·cases g2
  ·exact ⟨b,F,rfl,g1,g3,g4⟩)
 have yT:Hid (∀W,Below w.heap.size w W->Calls prog 115 #[.slice la x.log.length lc] W (ig W 138 3 x.log.length (mU x.log))):=hd (fun W hb=>Om la x.log.length lc (mU x.log) W (vE.below hb) (NT _) (NU _) (by omega));obtain ⟨W0,aD⟩:=Haa (w.alloc (.cells (lh ⟨x,la,lc,oa,oc,qa,qc,es⟩).toArray 109));rw [aD.out]at ai oJ
 have HD:Hid (∀W,Below W0.heap.size W0 W->W.cell? ⟨w.heap.size,0,none⟩=some (.int .i64 (x.cur:Int))/\W.cell? ⟨w.heap.size,1,none⟩=some (.slice la x.log.length lc)/\W.cell? ⟨w.heap.size,2,none⟩=some (.int .i64 x.lost)/\W.cell? ⟨w.heap.size,3,none⟩=some (.int .i64 x.fC)/\W.cell? ⟨w.heap.size,4,none⟩=some (.slice oa x.os.length oc)/\W.cell? ⟨w.heap.size,5,none⟩=some (.slice qa x.os.length qc)):=hd (fun W hb=>by
  have hk:W.heap[w.heap.size]?=_:=(hb.block _ (aab.1 oJ).1).trans oJ
  refine ⟨?_, ?_, ?_, ?_, ?_, ?_⟩<;>(rw [aaa _ _ _ _ _ _ hk];rfl))
 obtain ⟨d0,d1,d2,d3,d4,d5⟩:=HD.out W0 (aak _ _);have Y8:=yT.out W0.drew ai.drew;have bH:Below W0.heap.size W0 W0.drew:=(aak _ _).drew;obtain ⟨Q,hQ⟩:=Haa (OP w i x);rw [hQ.out];clear vE j9 Re yL Rf jj oZ ht PD oJ;unfold Lx lh;unfold lh at aD;simp only at aD⊢;go_enter func89,ntmps89;go_upto_region 1 with fail;rw [aD.out];go_cut [5] (fun v5 wy=>∃G,v5=.pointer (some ⟨G,0,none⟩)/\Hid (Below W0.heap.size W0 wy/\∃a c bw FW,Ly w i x wy G a c bw FW))
 case first=>
  go_region_held3 (fun w'=>w'.cell? ⟨w.heap.size,0,none⟩=some (.int .i64 (x.cur:Int))/\w'.cell? ⟨w.heap.size,1,none⟩=some (.slice la x.log.length lc)/\w'.cell? ⟨w.heap.size,2,none⟩=some (.int .i64 x.lost)/\w'.cell? ⟨w.heap.size,3,none⟩=some (.int .i64 x.fC)) (go_keep)
   (first
    |(go_at_call 115;(with_reducible refine Y8.mono ?_);rintro e w1 ⟨a',c',rfl,r1,r2,r3⟩;obtain ⟨g0,g1,g2,g3,-,-⟩:=HD.out w1 (cC r3))
    |(go_at_call 116;(with_reducible refine (aZ.Uj (w:=W0.drew)).mono ?_);rintro e w1 ⟨bw,FW,rfl,v1,v2,v3⟩;obtain ⟨g0,g1,g2,g3,-,-⟩:=HD.out w1 (cC v3);have hcB:=yT.out w1 (ai.trans ((cC v3).mono ai.size)))
    |(go_at_call 115;(with_reducible refine hcB.mono ?_);rintro e w2 ⟨a',c',rfl,r1,r2,r3⟩;obtain ⟨g0,g1,g2,g3,-,-⟩:=HD.out w2 ((cC v3).trans (r3.mono (cC v3).size)))
    |(go_at_call 116;(with_reducible refine (aZ.Uj (w:=w1)).mono ?_);rintro e w2 ⟨bw,FW,rfl,v1,v2,v3⟩;obtain ⟨g0,g1,g2,g3,-,-⟩:=HD.out w2 ((cC r3).trans (v3.mono (cC r3).size))))
  all_goals (
   go_wp2_with fail;go_meet
   case rel=>exact ⟨_,rfl,hd ⟨((cC r3).trans (v3.mono (cC r3).size)).alloc (aai (cC r3).size v3.size) _,a',c',bw,FW,lpI_a ai r1 r2 r3 v1 v2 v3⟩⟩)
 case rest=>
  obtain ⟨G,rfl,HX⟩:=hcut;obtain ⟨aj,a',c',bw,FW,hI⟩:=HX.out;obtain ⟨g0,g1,g2,g3,g4,g5⟩:=HD.out wc aj;have uy:=Xj.out wc hI.au
  have HF:Hid (∀w2,Below wc.heap.size wc w2->w2.frozen? ⟨G,6,none⟩=false/\w2.cell? ⟨G,6,none⟩=some (.pointer none)):=hd (fun w2 hb=>by
   have e1:w2.heap[G]?=_:=(hb.block G (aab.1 hI.hd).1).trans hI.hd
   exact ⟨by simp [World.frozen?,e1],by rw [aaa _ _ _ _ _ _ e1];rfl⟩)
  replace hI:=hd hI;clear HX Y8 yT Xj HD d0 d1 d2 d3 d4 d5 ai bH g0 g1 g2 g3 aj aD;go_wp2_with (go_at_call 117;refine uy.mono ?_;rintro e w2 ⟨bl,FL,rfl,aI,hk,hn⟩;obtain ⟨u6,v6⟩:=HF.out w2 aI);rw [<-hQ.out];exact ⟨G,a',c',bw,FW,bl,FL,rfl,hI.out.done aI hk hn⟩
end Go.Proofs.YthopnfbjiifhhaaGreatDoor
