/- States, and what is seen of them: the model. -/
import Derived.Test.YthopnfbjiifhhaaGreatDoorGXLW1
import Derived.Deep.RegionHeld3
import Derived.Deep.CondSized
import Derived.Deep.DeepCutAuto
import Derived.Deep.CutBlock
set_option maxHeartbeats 8000000
set_option maxRecDepth 100000
namespace Go.Proofs.YthopnfbjiifhhaaGreatDoor.View
open Go.RowKit Go.Proofs.Tryz
noncomputable def dec(p:Prop):Bool:=@decide p (Classical.propDecidable p)
variable{p:Prop}{α:Type}{a:Act}{z:Value}{P:Program}{w:World}{ops:Array Oper}{o:Oper}{sz:Nat}
theorem BZ(h:p):dec p=true:=by unfold dec;simp [h]
theorem Cg(h:¬p):dec p=false:=by unfold dec;simp [h]
theorem dec_iff{q:Prop}(h:p↔q):dec p=dec q:=by
 by_cases hp:p
 ·rw [BZ hp,BZ (h.1 hp)]
 ·rw [Cg hp,Cg (fun hq=>hp (h.2 hq))]
structure Rg where
 r0:Int
 r1:Int
 r2:Int
 r3:Int
 r4:Int
 r5:Int
 r6:Int
 r7:Int
structure mW where
 vs:List Int
 ws:List (Int×Int)
 tk:Int
 dr:Int
structure n_ where
 st:Int
 pc:Int
 r:Rg
 cu:Int
 ti:Int
 fi:Bool
 wk:Int
 ls:List mW
structure og where
 cu:Int
 lg:List (Int×Int×Int)
 lo:Int
 fo:Int
 os:List Int
 qs:List (List Int)
structure tz where
 tk:Int
 ps:List og
 qs:List n_
def rg0:Rg:=⟨0,0,0,0,0,0,0,0⟩
def ln0:mW:=⟨[],[],0,0⟩
def pz:n_:=⟨0,0,rg0,0,0,false,0,[]⟩
def mz:og:=⟨0,[],0,0,[],[]⟩
instance:Inhabited mW:=⟨ln0⟩
instance:Inhabited n_:=⟨pz⟩
instance:Inhabited og:=⟨mz⟩
structure l_ where
 lb:List Nat
 pp:List Int
def uM(a b:Nat):Bool:=decide (a&&&b=a)
def jC(c:l_)(a:Nat)(i:Int):Bool:=decide (0<=i)&&decide (i<(c.lb.length:Int))&&uM (c.lb.getD i.toNat 0) a
def jD(c:l_)(a:Nat)(p:Int):Bool:=decide (0<=p)&&decide (p<(c.pp.length:Int))&&jC c a (c.pp.getD p.toNat 0)
def wK{α:Type}(f:Int->Bool)(z:α):Nat->List α->List α
 |_,[]=>[]
 |i,x::t=>(if f (i:Int)then x else z)::wK f z (i+1) t
def xH(c:l_)(a:Nat)(s:tz):tz:=⟨s.tk,wK (jC c a) mz 0 s.ps,wK (jD c a) pz 0 s.qs⟩
theorem zL(f:Int->Bool)(z:α):∀(i:Nat) (l:List α),(wK f z i l).length=l.length
 |_,[]=>rfl
 |i,x::t=>by simp [wK,zL f z (i+1) t]
theorem DX(f:Int->Bool)(z d:α):∀(i:Nat) (l:List α) (j:Nat),j<l.length->(wK f z i l).getD j d=if f ((i+j:Nat):Int)then l.getD j d else z
 |_,[],j,h=>absurd h (aao j)
 |i,x::t,0,_=>by simp [wK]
 |i,x::t,j+1,h=>by
  have ih:=DX f z d (i+1) t j (by simpa using h);rw [show i+1+j=i+(j+1) by omega]at ih;simpa [wK]using ih
theorem MI(a b:Nat):uM a b=true↔∀i,a.testBit i=true->b.testBit i=true:=by
 unfold uM;rw [decide_eq_true_iff];constructor
 ·intro h i hi;have:=abb (fun x=>x.testBit i) h;simp [Nat.testBit_and,hi]at this;exact this
 ·intro h;apply Nat.eq_of_testBit_eq;intro i;rw [Nat.testBit_and]
  cases hi:a.testBit i
  ·rfl
  ·simp [h i hi]
theorem DM{a b:Bool}(h:a=b):Ending.returned (.bool a)=.returned (.bool b):=by rw [h]
theorem info_parts{t:TypeId}{s b:Nat}(h:(prog.info? t).map (fun i=>(i.zero,i.size,i.bytes))=some (some z,s,b)):∃i,prog.info? t=some i/\i.zero=some z/\i.size=s/\i.bytes=b:=by
 cases hh:prog.info? t with
 |none=>rw [hh]at h;cases h
 |some i=>rw [hh]at h;simp at h;exact ⟨i,rfl,h.1,h.2.1,h.2.2⟩
theorem mX{T e:TypeId}{size bytes:Nat}(hu:prog.underlying T=some (.slice e))(kI:(prog.info? e).map (fun i=>(i.zero,i.size,i.bytes))=some (some z,size,bytes))(gI:z.cells.size=size)(oF:bytes<=64)
 {w:World}{a:Option Addr}{n c:Nat}{xs:List Value}(hR:Row w e size a n c xs)(hn:n<=1000000000000)(us:List Value)(yq:us.length=size)(h1:∀u∈us,u.oneCell'=true):
 ∃a' c' w',(∀ty,(Builtin.append_ #[T,T] ty #[.slice a n c,.slice (some ⟨w.heap.size,0,none⟩) 1 1]).run prog (w.alloc (.cells us.toArray e))=.ok (.slice a' (n+1) c') w')/\
  Row w' e size a' (n+1) c' (xs++us)/\Mod (fun k=>ae a=some k) w w'/\(∀k,ae a'=some k->ae a=some k\/w.heap.size<=k):=by
 obtain ⟨i,k1,k2,k3,k4⟩:=info_parts kI;have hb:=aA w (.cells us.toArray e);have hh:=aae w (.cells us.toArray e);have hs:Src prog size T (.slice (some ⟨w.heap.size,0,none⟩) 1 1) 1 us (w.alloc (.cells us.toArray e)):=by
  refine Src.ofSlice _ hu _ _ _ _ (by omega) (fun j u hj=> ?_) h1;rw [kO,aaa _ _ _ _ _ _ hh,aaH];simpa using hj
 obtain ⟨a',c',w',m1,m2,m3,m4,_⟩:=mD (P:=prog) _ T e i _ size bytes hu k1 k2 k3 k4 gI (hR.below hb) _ 1 _ hs (by unfold maxLen;omega) (by
  have:(n+1)*bytes<=(n+1)*64:=abj _ oF
  omega)
 refine ⟨a',c',w',m1,m2,(Mod.aS _ hb).trans m3 (fun _ h=> .inl h),fun k hk=> ?_⟩;rcases m4 k hk with h|h
 ·exact .inl h
 ·exact .inr (by have:=hb.size;omega)
theorem dZ{rest:List Oper}{Q:Exit->Act->World->Prop}(lM:o.guard=none)(s x:Operand)(t:TypeId)
 (ho:o.op=.call {callee:=.builtin .append,args:=#[s,x],argTypes:=#[t,t]})(v vx v':Value)(w':World)(hs:a.eval s=v)(hx:a.eval x=vx)
 (fK:∀ty,(Builtin.append_ #[t,t] ty #[v,vx]).run P w=.ok v' w')(h:wpList P ops Q rest (a.put o.dst v') w'):wpList P ops Q (o::rest) a w:=
 wpList_plain lM fun K hK=>by
  unfold Oper.wp execOp
  simp only [ho,resolve,invoke,builtin,Sem.run_bind,Sem.run_pure,Result.andThen_ok,List.map_toArray,List.map_cons,List.map_nil,hs,hx,fK];exact hK _ _ h
theorem rN{K:Act->World->Prop}{Q:Exit->Act->World->Prop}{E:Prop}(lM:o.guard=none)(s x:Operand)(t:TypeId)
 (ho:o.op=.call {callee:=.builtin .append,args:=#[s,x],argTypes:=#[t,t]})(v vx v':Value)(w':World)(hs:a.eval s=v)(hx:a.eval x=vx)
 (fK:∀ty,(Builtin.append_ #[t,t] ty #[v,vx]).run P w=.ok v' w')(h:K (a.put o.dst v') w'):if Region.wanted o (yielded ops a.tmps)=true then Oper.wp P o a w K Q else E:=by
 have hw:Region.wanted o (yielded ops a.tmps)=true:=by simp [Region.wanted,lM]
 rw [aah hw];unfold Oper.wp execOp;simp only [ho,resolve,invoke,builtin,Sem.run_bind,Sem.run_pure,Result.andThen_ok,List.map_toArray,List.map_cons,List.map_nil,hs,hx,fK];exact h
theorem ck(w:World)(n:Nat):Below w.heap.size w (w.drewN n):=⟨rfl,rfl,rfl,aag _,fun _ _=>rfl⟩
theorem fu(w:World):Below w.heap.size w w.drew:=ck w 1
theorem cC{w':World}(h:Below w.drew.heap.size w.drew w'):Below w.heap.size w w':=(fu w).trans h
def iD:Nat:=17592186044416
def b_{α:Type}[Inhabited α](sz:Nat)(E:World->List Value->α->Prop)(w:World)(v:Value)(xs:List α):Prop:=
 ∃(a:Option Addr) (c:Nat) (cs:List (List Value)),v=.slice a xs.length c/\Rd w a cs.flatten/\cs.length=xs.length/\xs.length<=iD/\∀i,i<xs.length->(cs.getD i []).length=sz/\E w (cs.getD i []) (xs.getD i default)
theorem M6:∀(cs:List (List Value)),(∀i,i<cs.length->(cs.getD i []).length=sz)->cs.flatten.length=cs.length*sz
 |[],_=>by simp
 |x::t,h=>by
  have h0:=h 0 (by simp);have ih:=M6 t (fun i hi=>by have:=h (i+1) (by simpa using hi);simpa using this);simp only [List.getD_cons_zero]at h0;rw [List.flatten_cons,aal,ih,h0,List.length_cons,abr];omega
theorem M7:∀(cs:List (List Value)),(∀i,i<cs.length->(cs.getD i []).length=sz)->∀i j,i<cs.length->j<sz->cs.flatten[i*sz+j]?=(cs.getD i [])[j]?
 |[],_,i,_,hi,_=>absurd hi (aao i)
 |x::t,h,0,j,_,hj=>by
  have h0:=h 0 (by simp);simp only [List.getD_cons_zero]at h0⊢;rw [Nat.zero_mul,aaH,List.flatten_cons,aaE (by omega)]
 |x::t,h,i+1,j,hi,hj=>by
  have h0:=h 0 (by simp);simp only [List.getD_cons_zero]at h0;have ih:=M7 t (fun i hi=>by have:=h (i+1) (by simpa using hi);simpa using this) i j (by simpa using hi) hj;rw [List.flatten_cons,aan (by rw [h0,abr];omega),h0,show(i+1)*sz+j-sz=i*sz+j by rw [abr];omega,ih];simp
section
variable{α:Type} [Inhabited α] {sz:Nat} {E:World->List Value->α->Prop} {w w':World} {v:Value} {xs:List α}
theorem b_.below(h:b_ sz E w v xs)(hb:Below w.heap.size w w')(hE:∀cs x,E w cs x->E w' cs x):b_ sz E w' v xs:=by
 obtain ⟨a,c,cs,h1,h2,h3,h4,h5⟩:=h;exact ⟨a,c,cs,h1,h2.below hb,h3,h4,fun i hi=>⟨(h5 i hi).1,hE _ _ (h5 i hi).2⟩⟩
theorem b_.at'(h:b_ sz E w v xs)(hs:0<sz):∃(a:Option Addr) (c:Nat),v=.slice a xs.length c/\xs.length<=iD/\∀i,i<xs.length->∃(g o:Nat) (cs:List Value),a=some ⟨g,o,none⟩/\cs.length=sz/\E w cs (xs.getD i default)/\∀W,Below w.heap.size w W->∀j u,cs[j]?=some u->W.cell? ⟨g,o+i*sz+j,none⟩=some u:=by
 obtain ⟨a,c,cs,h1,h2,h3,h4,h5⟩:=h;refine ⟨a,c,h1,h4,fun i hi=> ?_⟩;obtain ⟨e1,e2⟩:=h5 i hi;have key:=fun j hj=>M7 (sz:=sz) cs (fun i hi=>(h5 i (by omega)).1) i j (by omega) hj
 obtain ⟨g,o,ea,-⟩:=h2 (i*sz+0) _ ((key 0 hs).trans (aad (by omega)));refine ⟨g,o,cs.getD i [],ea,e1,e2,fun W hb j u hj=> ?_⟩;have hjs:j<sz:=by
  have:=(abE.1 hj).1;omega
 obtain ⟨g2,o2,Zw,hc⟩:=h2 (i*sz+j) u ((key j hjs).trans hj);rw [ea]at Zw
 cases Zw
 rw [show o+i*sz+j=o+(i*sz+j) by omega];exact (hb.cell (aaj w _ hc)).trans hc
theorem b_.nil:b_ sz E w (.slice none 0 0) []:=⟨none,0,[],rfl,(fun j u hj=>by simp at hj),rfl,aaq _,fun i hi=>absurd hi (aao i)⟩
end
def iE(_:World)(cs:List Value)(x:Int):Prop:=cs=[.int .i64 x]
def wE(_:World)(cs:List Value)(x:Int×Int):Prop:=cs=[.int .i64 x.1,.int .i64 x.2]
def eE(_:World)(cs:List Value)(x:Int×Int×Int):Prop:=cs=[.int .i64 x.1,.int .i64 x.2.1,.int .i64 x.2.2]
def qE(w:World)(cs:List Value)(x:List Int):Prop:=∃v,cs=[v]/\b_ 1 iE w v x
def lE(w:World)(cs:List Value)(x:mW):Prop:=∃v1 v2,cs=[v1,v2,.int .i64 x.tk,.int .i64 x.dr]/\b_ 1 iE w v1 x.vs/\b_ 2 wE w v2 x.ws
def pE(w:World)(cs:List Value)(x:og):Prop:=∃v1 v4 v5,cs=[.int .i64 x.cu,v1,.int .i64 x.lo,.int .i64 x.fo,v4,v5]/\b_ 3 eE w v1 x.lg/\b_ 1 iE w v4 x.os/\b_ 1 qE w v5 x.qs
def rE(w:World)(cs:List Value)(x:n_):Prop:=∃v,cs=[.int .i64 x.st,.int .i64 x.pc,.int .i64 x.r.r0,.int .i64 x.r.r1,.int .i64 x.r.r2,.int .i64 x.r.r3,.int .i64 x.r.r4,.int .i64 x.r.r5,.int .i64 x.r.r6,.int .i64 x.r.r7,.int .i64 x.cu,.int .i64 x.ti,.bool x.fi,.int .i64 x.wk,v]/\b_ 4 lE w v x.ls
def sE(w:World)(cs:List Value)(x:tz):Prop:=∃v1 v2,cs=[.int .i64 x.tk,v1,v2]/\b_ 6 pE w v1 x.ps/\b_ 15 rE w v2 x.qs
section
variable{w w':World} {cs:List Value} (hb:Below w.heap.size w w')
include hb
theorem qE.below{x:List Int}(h:qE w cs x):qE w' cs x:=by
 obtain ⟨v,e,h⟩:=h;exact ⟨v,e,h.below hb fun _ _ h=>h⟩
theorem lE.below{x:mW}(h:lE w cs x):lE w' cs x:=by
 obtain ⟨v1,v2,e,h1,h2⟩:=h;exact ⟨v1,v2,e,h1.below hb fun _ _ h=>h,h2.below hb fun _ _ h=>h⟩
theorem pE.below{x:og}(h:pE w cs x):pE w' cs x:=by
 obtain ⟨v1,v4,v5,e,h1,h2,h3⟩:=h;exact ⟨v1,v4,v5,e,h1.below hb fun _ _ h=>h,h2.below hb fun _ _ h=>h,h3.below hb fun _ _ h=>h.below hb⟩
theorem rE.below{x:n_}(h:rE w cs x):rE w' cs x:=by
 obtain ⟨v,e,h⟩:=h;exact ⟨v,e,h.below hb fun _ _ h=>h.below hb⟩
theorem sE.below{x:tz}(h:sE w cs x):sE w' cs x:=by
 obtain ⟨v1,v2,e,h1,h2⟩:=h;exact ⟨v1,v2,e,h1.below hb fun _ _ h=>h.below hb,h2.below hb fun _ _ h=>h.below hb⟩
end
theorem FN:(prog.info? 3).map (fun i=>(i.zero,i.size,i.bytes))=some (some (.int .i64 0),1,8):=by kernel_rfl
theorem info_i64:(prog.info? 2).map (fun i=>(i.zero,i.size,i.bytes))=some (some (.int .i64 0),1,8):=by kernel_rfl
theorem MG:(prog.info? 138).map (fun i=>(i.zero,i.size,i.bytes))=some (some (.agg #[.int .i64 0,.int .i64 0,.int .i64 0]),3,24):=by kernel_rfl
theorem info_waiter:(prog.info? 187).map (fun i=>(i.zero,i.size,i.bytes))=some (some (.agg #[.int .i64 0,.int .i64 0]),2,16):=by kernel_rfl
theorem M5:(prog.info? 23).map (fun i=>(i.zero,i.size,i.bytes))=some (some (.slice none 0 0),1,24):=by kernel_rfl
theorem info_lane:(prog.info? 147).map (fun i=>(i.zero,i.size,i.bytes))=some (some (.agg #[.slice none 0 0,.slice none 0 0,.int .i64 0,.int .i64 0]),4,64):=by kernel_rfl
def jd(w:World)(T:TypeId)(sz n:Nat)(us:List Value)(e:Ending)(w':World):Prop:=∃a c,e=.returned (.slice a n c)/\Row w' T sz a n c us/\(∀k,ae a=some k->k=w.heap.size)/\Below w.heap.size w w'
variable{T:TypeId}{w:World}{a:Option Addr}{n c:Nat}{us ca cb:List Value}{va vb:Value}{xs:List (Int)}
theorem DR{e:TypeId}{z:Value}{size bytes:Nat}(hu:prog.underlying T=some (.slice e))(kI:(prog.info? e).map (fun i=>(i.zero,i.size,i.bytes))=some (some z,size,bytes))(gI:z.cells.size=size)(bu:0<size)(hb:bytes<=136)
 {w:World}{a:Option Addr}{n c:Nat}{us:List Value}(hR:Rd w a us)(hl:us.length=n*size)(h1:∀u∈us,u.oneCell'=true)(hn:n<=1048576):
 ∃a' c' w',(∀ty,(Builtin.append_ #[T,T] ty #[.slice none 0 0,.slice a n c]).run prog w=.ok (.slice a' n c') w')/\Row w' e size a' n c' us/\(∀k,ae a'=some k->k=w.heap.size)/\Below w.heap.size w w':=by
 obtain ⟨i,k1,k2,k3,k4⟩:=info_parts kI;have hs:=hR.src (P:=prog) (c:=c) hu hl bu h1
 obtain ⟨a',c',w',m1,m2,m3,m4,m5⟩:=mD (P:=prog) w T e i z size bytes hu k1 k2 k3 k4 gI Row.nil _ n us hs (by unfold maxLen;omega) (by
  have:(0+n)*bytes<=(0+n)*136:=abj _ hb
  omega)
 rw [aaH]at m2;simp only [Nat.zero_add]at m1;rw [List.nil_append]at m2;refine ⟨a',c',w',m1,m2,fun k hk=> ?_,m3.below (aag _) (fun k _ hk=>by cases hk)⟩;rcases m5 with rfl|h
 ·cases hk
 ·rw [h]at hk;cases hk;rfl
theorem Tk(hR:Rd w a us)(hl:us.length=n*1)(h1:∀u∈us,u.oneCell'=true)(hn:n<=1048576):Calls prog 100 #[.slice a n c] w (jd w 3 1 n us):=by
 obtain ⟨a',c',w',m1,m2,m3,m4⟩:=DR (c:=c) aaV FN rfl (by decide) (by decide) hR hl h1 hn;have HO:Hid (jd w 3 1 n us (.returned (.slice a' n c')) w'):=hd ⟨a',c',rfl,m2,m3,m4⟩;generalize jd w 3 1 n us=Q at*
 have aO:=hd m1;clear m1 m2 m3 m4 hR hl h1;go_enter func100,ntmps100;go_wp2_with (at_builtin;refine dZ rfl _ _ _ rfl _ _ _ _ rfl rfl aO.out ?_;clear aO);first|exact HO.out|(go_ret;exact HO.out)
theorem copied_i64(hR:Rd w a us)(hl:us.length=n*1)(h1:∀u∈us,u.oneCell'=true)(hn:n<=1048576):Calls prog 103 #[.slice a n c] w (jd w 2 1 n us):=by
 obtain ⟨a',c',w',m1,m2,m3,m4⟩:=DR (c:=c) underlying144 info_i64 rfl (by decide) (by decide) hR hl h1 hn;have HO:Hid (jd w 2 1 n us (.returned (.slice a' n c')) w'):=hd ⟨a',c',rfl,m2,m3,m4⟩;generalize jd w 2 1 n us=Q at*
 have aO:=hd m1;clear m1 m2 m3 m4 hR hl h1;go_enter func103,ntmps103;go_wp2_with (at_builtin;refine dZ rfl _ _ _ rfl _ _ _ _ rfl rfl aO.out ?_;clear aO);first|exact HO.out|(go_ret;exact HO.out)
theorem copied_ent(hR:Rd w a us)(hl:us.length=n*3)(h1:∀u∈us,u.oneCell'=true)(hn:n<=1048576):Calls prog 99 #[.slice a n c] w (jd w 138 3 n us):=by
 obtain ⟨a',c',w',m1,m2,m3,m4⟩:=DR (c:=c) underlying106 MG rfl (by decide) (by decide) hR hl h1 hn;have HO:Hid (jd w 138 3 n us (.returned (.slice a' n c')) w'):=hd ⟨a',c',rfl,m2,m3,m4⟩;generalize jd w 138 3 n us=Q at*
 have aO:=hd m1;clear m1 m2 m3 m4 hR hl h1;go_enter func99,ntmps99;go_wp2_with (at_builtin;refine dZ rfl _ _ _ rfl _ _ _ _ rfl rfl aO.out ?_;clear aO);first|exact HO.out|(go_ret;exact HO.out)
theorem copied_wai(hR:Rd w a us)(hl:us.length=n*2)(h1:∀u∈us,u.oneCell'=true)(hn:n<=1048576):Calls prog 104 #[.slice a n c] w (jd w 187 2 n us):=by
 obtain ⟨a',c',w',m1,m2,m3,m4⟩:=DR (c:=c) underlying145 info_waiter rfl (by decide) (by decide) hR hl h1 hn;have HO:Hid (jd w 187 2 n us (.returned (.slice a' n c')) w'):=hd ⟨a',c',rfl,m2,m3,m4⟩;generalize jd w 187 2 n us=Q at*
 have aO:=hd m1;clear m1 m2 m3 m4 hR hl h1;go_enter func104,ntmps104;go_wp2_with (at_builtin;refine dZ rfl _ _ _ rfl _ _ _ _ rfl rfl aO.out ?_;clear aO);first|exact HO.out|(go_ret;exact HO.out)
theorem copied_que(hR:Rd w a us)(hl:us.length=n*1)(h1:∀u∈us,u.oneCell'=true)(hn:n<=1048576):Calls prog 101 #[.slice a n c] w (jd w 23 1 n us):=by
 obtain ⟨a',c',w',m1,m2,m3,m4⟩:=DR (c:=c) underlying107 M5 rfl (by decide) (by decide) hR hl h1 hn;have HO:Hid (jd w 23 1 n us (.returned (.slice a' n c')) w'):=hd ⟨a',c',rfl,m2,m3,m4⟩;generalize jd w 23 1 n us=Q at*
 have aO:=hd m1;clear m1 m2 m3 m4 hR hl h1;go_enter func101,ntmps101;go_wp2_with (at_builtin;refine dZ rfl _ _ _ rfl _ _ _ _ rfl rfl aO.out ?_;clear aO);first|exact HO.out|(go_ret;exact HO.out)
theorem copied_lan(hR:Rd w a us)(hl:us.length=n*4)(h1:∀u∈us,u.oneCell'=true)(hn:n<=1048576):Calls prog 102 #[.slice a n c] w (jd w 147 4 n us):=by
 obtain ⟨a',c',w',m1,m2,m3,m4⟩:=DR (c:=c) underlying113 info_lane rfl (by decide) (by decide) hR hl h1 hn;have HO:Hid (jd w 147 4 n us (.returned (.slice a' n c')) w'):=hd ⟨a',c',rfl,m2,m3,m4⟩;generalize jd w 147 4 n us=Q at*
 have aO:=hd m1;clear m1 m2 m3 m4 hR hl h1;go_enter func102,ntmps102;go_wp2_with (at_builtin;refine dZ rfl _ _ _ rfl _ _ _ _ rfl rfl aO.out ?_;clear aO);first|exact HO.out|(go_ret;exact HO.out)
theorem beq_dec(x y:Int):(x==y)=dec (x=y):=by
 by_cases h:x=y
 ·rw [BZ h];simpa using h
 ·rw [Cg h];simpa using h
theorem equal_int(x:Int)(w:World):Calls prog 67 #[.int .i64 x,.int .i64 x] w fun e w'=>e=.returned (.bool true)/\Below w.heap.size w w':=by
 go_enter func67,ntmps67;go_wp2_with fail;go_ret;exact ⟨rfl,aak _ _⟩
theorem equal_i64(x:Int)(w:World):Calls prog 96 #[.int .i64 x,.int .i64 x] w fun e w'=>e=.returned (.bool true)/\Below w.heap.size w w':=by
 go_enter func96,ntmps96;go_wp2_with fail;go_ret;exact ⟨rfl,aak _ _⟩
theorem equal_wai(x:Int×Int)(w:World):Calls prog 98 #[.agg #[.int .i64 x.1,.int .i64 x.2],.agg #[.int .i64 x.1,.int .i64 x.2]] w fun e w'=>e=.returned (.bool true)/\Below w.heap.size w w':=by
 obtain ⟨x1,x2⟩:=x;have HB:Hid (∀o1 o2,Below w.heap.size w ((w.alloc o1).alloc o2)):=hd (fun o1 o2=>(aA w o1).alloc (by simp) o2);go_enter func98,ntmps98;go_wp2_with fail;go_ret;exact ⟨rfl,HB.out _ _⟩
theorem equal_ent(x:Int×Int×Int)(w:World):Calls prog 65 #[.agg #[.int .i64 x.1,.int .i64 x.2.1,.int .i64 x.2.2],.agg #[.int .i64 x.1,.int .i64 x.2.1,.int .i64 x.2.2]] w fun e w'=>e=.returned (.bool true)/\Below w.heap.size w w':=by
 obtain ⟨x1,x2,x3⟩:=x;have HB:Hid (∀o1 o2,Below w.heap.size w ((w.alloc o1).alloc o2)):=hd (fun o1 o2=>(aA w o1).alloc (by simp) o2);go_enter func65,ntmps65;go_wp2_with fail;go_ret;exact ⟨rfl,HB.out _ _⟩
theorem B5(p q:Prop):dec (p/\q)=(dec p&&dec q):=by
 by_cases hp:p
 ·by_cases hq:q
  ·rw [BZ hp,BZ hq,BZ ⟨hp,hq⟩];rfl
  ·rw [Cg hq,Cg (fun h=>hq h.2),Bool.and_false]
 ·rw [Cg hp,Cg (fun h=>hp h.1),Bool.false_and]
theorem DV(x y:Array Value)(T:TypeId):(∀V,Below ((w.alloc (.cells x T)).alloc (.cells y T)).heap.size ((w.alloc (.cells x T)).alloc (.cells y T)) V->V.heap[w.heap.size]?=some (.cells x T (0,0))/\V.heap[w.heap.size+1]?=some (.cells y T (0,0)))/\Below w.heap.size w ((w.alloc (.cells x T)).alloc (.cells y T)):=by
 have e:(w.alloc (.cells x T)).heap.size=w.heap.size+1:=by simp
 have h1:=aae w (.cells x T);have h2:=aae (w.alloc (.cells x T)) (.cells y T);rw [e]at h2;have jY:((w.alloc (.cells x T)).alloc (.cells y T)).heap[w.heap.size]?=_:=((aA (w.alloc (.cells x T)) (.cells y T)).block _ (by omega)).trans h1;exact ⟨fun V hb=>⟨(hb.block _ (aab.1 jY).1).trans jY,(hb.block _ (aab.1 h2).1).trans h2⟩,(aA w _).alloc (by omega) _⟩
theorem cI{V:World}{B:Nat}{x:Array Value}(h:V.heap[B]?=some (.cells x T (0,0))){j:Nat}{u:Value}(hj:x[j]?=some u):V.cell? ⟨B,j,none⟩=some u:=by rw [aaa _ _ _ _ _ _ h];exact hj
theorem info2:(prog.info? 2).isSome=true:=by kernel_rfl
theorem cells64:prog.cellsOf 2=1:=by kernel_rfl
theorem FU(xs:Array Value)(i:Nat)(v:Int)(h:xs[i]?=some (.int .i64 v))(W:World):(part 2 xs i).run prog W=.ok (.int .i64 v) W:=by
 unfold part;simp [go_sem,h]
theorem SG(d:Nat)(xs ys:Array Value)(f g:Nat->Int)(W:World):∀is:List Nat,(∀i∈is,xs[i]?=some (.int .i64 (f i))/\ys[i]?=some (.int .i64 (g i)))->(Op.eqItems (d+1) 2 1 xs ys is).run prog W=.ok (is.all fun i=>f i==g i) W
 |[],_=>by simp [Op.eqItems]
 |i::is,h=>by
  obtain ⟨h1,h2⟩:=h i (by simp);have ih:=SG d xs ys f g W is (fun j hj=>h j (by simp [hj]));simp only [Op.eqItems,Sem.run_bind,Nat.mul_one,FU xs i _ h1,FU ys i _ h2,Result.andThen_ok,run_equalIn_int W d 2 .i64 .i64 (f i) (g i) underlying2]
  cases hc:(f i==g i)
  ·simp [hc]
  ·simp [hc,ih]
theorem rg_dec(a b:Rg):dec (a=b)=(dec (a.r0=b.r0)&&(dec (a.r1=b.r1)&&(dec (a.r2=b.r2)&&(dec (a.r3=b.r3)&&(dec (a.r4=b.r4)&&(dec (a.r5=b.r5)&&(dec (a.r6=b.r6)&&dec (a.r7=b.r7)))))))):=by
 rw [<-B5,<-B5,<-B5,<-B5,<-B5,<-B5,<-B5];obtain ⟨a0,a1,a2,a3,a4,a5,a6,a7⟩:=a;obtain ⟨b0,b1,b2,b3,b4,b5,b6,b7⟩:=b;exact dec_iff (by simp)
def Fb(a:Rg):Array Value:=#[.int .i64 a.r0,.int .i64 a.r1,.int .i64 a.r2,.int .i64 a.r3,.int .i64 a.r4,.int .i64 a.r5,.int .i64 a.r6,.int .i64 a.r7]
def Fc(a:Rg)(i:Nat):Int:=[a.r0,a.r1,a.r2,a.r3,a.r4,a.r5,a.r6,a.r7].getD i 0
theorem Wo(a:Rg)(i:Nat)(h:i<8):(Fb a)[i]?=some (.int .i64 (Fc a i)):=by
 have h:i=0\/i=1\/i=2\/i=3\/i=4\/i=5\/i=6\/i=7:=by omega
 rcases h with rfl|rfl|rfl|rfl|rfl|rfl|rfl|rfl<;>rfl
theorem eq8(a b:Rg)(W:World):(Op.equalIn 10000 112 (.agg (Fb a)) (.agg (Fb b))).run prog W=.ok (dec (a=b)) W:=by
 obtain ⟨i,hi⟩:=Option.isSome_iff_exists.1 info2;rw [show 10000=9999+1 from rfl,run_equalIn_array W 9999 _ _ underlying112 hi,cells64];rw [show 9999=9998+1 from rfl,SG 9998 _ _ (Fc a) (Fc b) W _ (fun j hj=>⟨Wo a j (abv.1 hj),Wo b j (abv.1 hj)⟩),rg_dec];simp only [<-beq_dec];congr 1;show(List.all [0,1,2,3,4,5,6,7] fun i=>Fc a i==Fc b i)=_;simp [Fc]
theorem Wp(l:List Value)(h:l.length=1):∃u0,l=[u0]:=by
 match l,h with
 |[u0],_=>exact ⟨u0,rfl⟩
theorem alike_int(hA:b_ 1 iE w va xs)(hB:b_ 1 iE w vb xs)
 (hS:∀W,Below w.heap.size w W->∀ca cb x,iE W ca x->iE W cb x->Calls prog 67 #[ca.getD 0 undef,cb.getD 0 undef] W fun e w'=>e=.returned (.bool true)/\Below W.heap.size W w')
 (hE:∀W cs x,Below w.heap.size w W->iE w cs x->iE W cs x):
 Calls prog 66 #[va,vb,.func (.func 67) #[] #[]] w fun e w'=>e=.returned (.bool true)/\Below w.heap.size w w':=by
 obtain ⟨a,c,rfl,iU,hA⟩:=hA.at' (by decide);obtain ⟨b,d,rfl,-,hB⟩:=hB.at' (by decide);have HA:=hd hA;have HB:=hd hB;have HS:=hd hS;have HE:=hd hE;unfold iD at iU;clear hA hB hS hE;obtain ⟨n,hn⟩:=Haa xs.length;rw [hn.out]at iU HA HB⊢;clear hn;go_enter func66,ntmps66;go_wp2_with fail;go_loopg [15] n (fun k v15 wr=>∃(i:Nat),v15=.int .i64 (i:Int)/\i+k=n/\Hid (Below w.heap.size w wr))
 case atStart=>exact ⟨0,rfl,by omega,hd (aak _ _)⟩
 case round=>
  obtain ⟨i,rfl,dh,aj⟩:=hrel;by_cases af:i<n
  ·have fI:(i:Int)<(n:Int):=by omega
   obtain ⟨ga,oa,jT,ea,lp,x1,x2⟩:=HA.out i af;obtain ⟨gb,ob,kF,eb,lq,y1,y2⟩:=HB.out i af;subst ea eb;have bH:=aj.out.trans ((fu wr).mono aj.out.size);have aJ:=HS.out wr.drew bH jT kF _ (HE.out _ _ _ bH x1) (HE.out _ _ _ bH y1);clear x1 y1 bH;obtain ⟨u0,rfl⟩:=Wp jT lp;obtain ⟨v0,rfl⟩:=Wp kF lq;have HG:Hid (∀W,Below wr.heap.size wr W->W.cell? ⟨ga,oa+i,none⟩=some u0/\W.cell? ⟨gb,ob+i,none⟩=some v0):=hd (fun W hb=>⟨(by have:=x2 W (aj.out.trans (hb.mono aj.out.size)) 0 _ rfl;simpa using this),(by have:=y2 W (aj.out.trans (hb.mono aj.out.size)) 0 _ rfl;simpa using this)⟩);simp only [List.getD_cons_zero]at aJ;obtain ⟨f0,f1⟩:=HG.out wr (fk wr);clear x2 y2;go_upto_region 6 with fail;go_cut [28] (fun v28 wy=>v28=.bool false/\Hid (Below w.heap.size w wy))
   case first=>
    go_region_held3 (fun w'=>w'.cell? ⟨ga,oa+i,none⟩=some u0/\w'.cell? ⟨gb,ob+i,none⟩=some v0) (go_keep)
     (first
      |(go_at_call 67;(with_reducible refine aJ.mono ?_);rintro e w2 ⟨rfl,aI⟩;have iq:=hd (cC aI);obtain ⟨e0,e1⟩:=HG.out w2 iq.out))
    all_goals (
     go_wp2_with fail;go_meet
     case rel=>exact ⟨rfl,hd (aj.out.trans (iq.out.mono aj.out.size))⟩)
   case rest=>
    obtain ⟨rfl,fS⟩:=hcut;clear HG f0 f1 aJ;go_wp2_with fail;go_roundg (gk-1)
    case rel=>exact ⟨i+1,by go_num,by omega,fS⟩
    case measure=>omega
  ·obtain rfl:i=n:=by omega
   go_wp2_with fail;go_ret;exact ⟨rfl,aj.out⟩
theorem Tl{xs:List Int}(hA:b_ 1 iE w va xs)(hB:b_ 1 iE w vb xs):Calls prog 66 #[va,vb,.func (.func 67) #[] #[]] w fun e w'=>e=.returned (.bool true)/\Below w.heap.size w w':=
 alike_int hA hB (fun W _ ca cb x e1 e2=>by
  obtain rfl:ca=[.int .i64 x]:=e1
  obtain rfl:cb=[.int .i64 x]:=e2
  exact equal_int x W) (fun _ _ _ _ h=>h)
theorem sameQueue_any{xs:List Int}(hA:b_ 1 iE w va xs)(hB:b_ 1 iE w vb xs):Calls prog 69 #[va,vb] w fun e w'=>e=.returned (.bool true)/\Below w.heap.size w w':=by
 have h:=Tl hA hB;clear hA hB;go_enter func69,ntmps69;go_wp2_with (go_at_call 66;refine h.mono ?_;rintro e w1 ⟨rfl,b1⟩);go_ret;exact ⟨rfl,b1⟩
theorem Wq(l:List Value)(h:l.length=3):∃u0 u1 u2,l=[u0,u1,u2]:=by
 match l,h with
 |[u0,u1,u2],_=>exact ⟨u0,u1,u2,rfl⟩
theorem alike_ent{xs:List (Int×Int×Int)}(hA:b_ 3 eE w va xs)(hB:b_ 3 eE w vb xs)
 (hS:∀W,Below w.heap.size w W->∀ca cb x,eE W ca x->eE W cb x->Calls prog 65 #[.agg ca.toArray,.agg cb.toArray] W fun e w'=>e=.returned (.bool true)/\Below W.heap.size W w')
 (hE:∀W cs x,Below w.heap.size w W->eE w cs x->eE W cs x):
 Calls prog 64 #[va,vb,.func (.func 65) #[] #[]] w fun e w'=>e=.returned (.bool true)/\Below w.heap.size w w':=by
 obtain ⟨a,c,rfl,iU,hA⟩:=hA.at' (by decide);obtain ⟨b,d,rfl,-,hB⟩:=hB.at' (by decide);have HA:=hd hA;have HB:=hd hB;have HS:=hd hS;have HE:=hd hE;unfold iD at iU;clear hA hB hS hE;obtain ⟨n,hn⟩:=Haa xs.length;rw [hn.out]at iU HA HB⊢;clear hn;go_enter func64,ntmps64;go_wp2_with fail;go_loopg [15] n (fun k v15 wr=>∃(i:Nat),v15=.int .i64 (i:Int)/\i+k=n/\Hid (Below w.heap.size w wr))
 case atStart=>exact ⟨0,rfl,by omega,hd (aak _ _)⟩
 case round=>
  obtain ⟨i,rfl,dh,aj⟩:=hrel;by_cases af:i<n
  ·have fI:(i:Int)<(n:Int):=by omega
   obtain ⟨ga,oa,jT,ea,lp,x1,x2⟩:=HA.out i af;obtain ⟨gb,ob,kF,eb,lq,y1,y2⟩:=HB.out i af;subst ea eb;have bH:=aj.out.trans ((fu wr).mono aj.out.size);have aJ:=HS.out wr.drew bH jT kF _ (HE.out _ _ _ bH x1) (HE.out _ _ _ bH y1);clear x1 y1 bH;obtain ⟨u0,u1,u2,rfl⟩:=Wq jT lp;obtain ⟨v0,v1,v2,rfl⟩:=Wq kF lq;have HG:Hid (∀W,Below wr.heap.size wr W->W.cell? ⟨ga,oa+i*3,none⟩=some u0/\W.cell? ⟨ga,oa+i*3+1,none⟩=some u1/\W.cell? ⟨ga,oa+i*3+2,none⟩=some u2/\W.cell? ⟨gb,ob+i*3,none⟩=some v0/\W.cell? ⟨gb,ob+i*3+1,none⟩=some v1/\W.cell? ⟨gb,ob+i*3+2,none⟩=some v2):=hd (fun W hb=>⟨x2 W (aj.out.trans (hb.mono aj.out.size)) 0 _ rfl,x2 W (aj.out.trans (hb.mono aj.out.size)) 1 _ rfl,x2 W (aj.out.trans (hb.mono aj.out.size)) 2 _ rfl,y2 W (aj.out.trans (hb.mono aj.out.size)) 0 _ rfl,y2 W (aj.out.trans (hb.mono aj.out.size)) 1 _ rfl,y2 W (aj.out.trans (hb.mono aj.out.size)) 2 _ rfl⟩);obtain ⟨f0,f1,f2,f3,f4,f5⟩:=HG.out wr (fk wr);clear x2 y2;go_upto_region 6 with fail;go_cut [28] (fun v28 wy=>v28=.bool false/\Hid (Below w.heap.size w wy))
   case first=>
    go_region_held3 (fun w'=>w'.cell? ⟨ga,oa+i*3,none⟩=some u0/\w'.cell? ⟨ga,oa+i*3+1,none⟩=some u1/\w'.cell? ⟨ga,oa+i*3+2,none⟩=some u2/\w'.cell? ⟨gb,ob+i*3,none⟩=some v0/\w'.cell? ⟨gb,ob+i*3+1,none⟩=some v1/\w'.cell? ⟨gb,ob+i*3+2,none⟩=some v2) (go_keep)
     (first
      |(go_at_call 65;(with_reducible refine aJ.mono ?_);rintro e w2 ⟨rfl,aI⟩;have iq:=hd (cC aI);obtain ⟨e0,e1,e2,e3,e4,e5⟩:=HG.out w2 iq.out))
    all_goals (
     go_wp2_with fail;go_meet
     case rel=>exact ⟨rfl,hd (aj.out.trans (iq.out.mono aj.out.size))⟩)
   case rest=>
    obtain ⟨rfl,fS⟩:=hcut;clear HG f0 f1 f2 f3 f4 f5 aJ;go_wp2_with fail;go_roundg (gk-1)
    case rel=>exact ⟨i+1,by go_num,by omega,fS⟩
    case measure=>omega
  ·obtain rfl:i=n:=by omega
   go_wp2_with fail;go_ret;exact ⟨rfl,aj.out⟩
theorem Wr(l:List Value)(h:l.length=1):∃u0,l=[u0]:=by
 match l,h with
 |[u0],_=>exact ⟨u0,rfl⟩
theorem alike_que{xs:List (List Int)}(hA:b_ 1 qE w va xs)(hB:b_ 1 qE w vb xs)
 (hS:∀W,Below w.heap.size w W->∀ca cb x,qE W ca x->qE W cb x->Calls prog 69 #[ca.getD 0 undef,cb.getD 0 undef] W fun e w'=>e=.returned (.bool true)/\Below W.heap.size W w')
 (hE:∀W cs x,Below w.heap.size w W->qE w cs x->qE W cs x):
 Calls prog 68 #[va,vb,.func (.func 69) #[] #[]] w fun e w'=>e=.returned (.bool true)/\Below w.heap.size w w':=by
 obtain ⟨a,c,rfl,iU,hA⟩:=hA.at' (by decide);obtain ⟨b,d,rfl,-,hB⟩:=hB.at' (by decide);have HA:=hd hA;have HB:=hd hB;have HS:=hd hS;have HE:=hd hE;unfold iD at iU;clear hA hB hS hE;obtain ⟨n,hn⟩:=Haa xs.length;rw [hn.out]at iU HA HB⊢;clear hn;go_enter func68,ntmps68;go_wp2_with fail;go_loopg [15] n (fun k v15 wr=>∃(i:Nat),v15=.int .i64 (i:Int)/\i+k=n/\Hid (Below w.heap.size w wr))
 case atStart=>exact ⟨0,rfl,by omega,hd (aak _ _)⟩
 case round=>
  obtain ⟨i,rfl,dh,aj⟩:=hrel;by_cases af:i<n
  ·have fI:(i:Int)<(n:Int):=by omega
   obtain ⟨ga,oa,jT,ea,lp,x1,x2⟩:=HA.out i af;obtain ⟨gb,ob,kF,eb,lq,y1,y2⟩:=HB.out i af;subst ea eb;have bH:=aj.out.trans ((fu wr).mono aj.out.size);have aJ:=HS.out wr.drew bH jT kF _ (HE.out _ _ _ bH x1) (HE.out _ _ _ bH y1);clear x1 y1 bH;obtain ⟨u0,rfl⟩:=Wr jT lp;obtain ⟨v0,rfl⟩:=Wr kF lq;have HG:Hid (∀W,Below wr.heap.size wr W->W.cell? ⟨ga,oa+i,none⟩=some u0/\W.cell? ⟨gb,ob+i,none⟩=some v0):=hd (fun W hb=>⟨(by have:=x2 W (aj.out.trans (hb.mono aj.out.size)) 0 _ rfl;simpa using this),(by have:=y2 W (aj.out.trans (hb.mono aj.out.size)) 0 _ rfl;simpa using this)⟩);simp only [List.getD_cons_zero]at aJ;obtain ⟨f0,f1⟩:=HG.out wr (fk wr);clear x2 y2;go_upto_region 6 with fail;go_cut [28] (fun v28 wy=>v28=.bool false/\Hid (Below w.heap.size w wy))
   case first=>
    go_region_held3 (fun w'=>w'.cell? ⟨ga,oa+i,none⟩=some u0/\w'.cell? ⟨gb,ob+i,none⟩=some v0) (go_keep)
     (first
      |(go_at_call 69;(with_reducible refine aJ.mono ?_);rintro e w2 ⟨rfl,aI⟩;have iq:=hd (cC aI);obtain ⟨e0,e1⟩:=HG.out w2 iq.out))
    all_goals (
     go_wp2_with fail;go_meet
     case rel=>exact ⟨rfl,hd (aj.out.trans (iq.out.mono aj.out.size))⟩)
   case rest=>
    obtain ⟨rfl,fS⟩:=hcut;clear HG f0 f1 aJ;go_wp2_with fail;go_roundg (gk-1)
    case rel=>exact ⟨i+1,by go_num,by omega,fS⟩
    case measure=>omega
  ·obtain rfl:i=n:=by omega
   go_wp2_with fail;go_ret;exact ⟨rfl,aj.out⟩
theorem alike_ents{xs:List (Int×Int×Int)}(hA:b_ 3 eE w va xs)(hB:b_ 3 eE w vb xs):Calls prog 64 #[va,vb,.func (.func 65) #[] #[]] w fun e w'=>e=.returned (.bool true)/\Below w.heap.size w w':=
 alike_ent hA hB (fun W hW ca cb x e1 e2=>by
  obtain rfl:ca=[.int .i64 x.1,.int .i64 x.2.1,.int .i64 x.2.2]:=e1
  obtain rfl:cb=[.int .i64 x.1,.int .i64 x.2.1,.int .i64 x.2.2]:=e2
  exact equal_ent x W) (fun W cs x hb h=>h)
theorem alike_ques{xs:List (List Int)}(hA:b_ 1 qE w va xs)(hB:b_ 1 qE w vb xs):Calls prog 68 #[va,vb,.func (.func 69) #[] #[]] w fun e w'=>e=.returned (.bool true)/\Below w.heap.size w w':=
 alike_que hA hB (fun W hW ca cb x e1 e2=>by
  obtain ⟨u,rfl,k1⟩:=e1
  obtain ⟨v,rfl,k2⟩:=e2
  exact sameQueue_any k1 k2) (fun W cs x hb h=>h.below hb)
theorem samePart_any{x:og}(h1:pE w ca x)(h2:pE w cb x):
 Calls prog 50 #[.agg ca.toArray,.agg cb.toArray] w fun e w'=>e=.returned (.bool true)/\Below w.heap.size w w':=by
 obtain ⟨p0,pl,p2,p3,po,pq⟩:=x;obtain ⟨u,v,z,e1,k1,k2,k3⟩:=h1;simp only at e1 k1 k2 k3;subst e1;obtain ⟨u2,v2,z2,e2,m1,m2,m3⟩:=h2;simp only at e2 m1 m2 m3;subst e2;have wU:Hid (∀V,Below w.heap.size w V->Calls prog 64 #[u,u2,.func (.func 65) #[] #[]] V fun e w'=>e=.returned (.bool true)/\Below V.heap.size V w'):=hd fun V hb=>alike_ents (k1.below hb fun _ _ h=>h) (m1.below hb fun _ _ h=>h)
 have kZ:Hid (∀V,Below w.heap.size w V->Calls prog 66 #[v,v2,.func (.func 67) #[] #[]] V fun e w'=>e=.returned (.bool true)/\Below V.heap.size V w'):=hd fun V hb=>Tl (k2.below hb fun _ _ h=>h) (m2.below hb fun _ _ h=>h)
 have uz:Hid (∀V,Below w.heap.size w V->Calls prog 68 #[z,z2,.func (.func 69) #[] #[]] V fun e w'=>e=.returned (.bool true)/\Below V.heap.size V w'):=hd fun V hb=>alike_ques (k3.below hb fun _ _ h=>h.below hb) (m3.below hb fun _ _ h=>h.below hb)
 clear k1 m1 k2 m2 k3 m3;go_enter func50,ntmps50;go_upto_region 1 with fail;obtain ⟨h1,h2⟩:=DV (w:=w) #[.int .i64 p0,u,.int .i64 p2,.int .i64 p3,v,z] #[.int .i64 p0,u2,.int .i64 p2,.int .i64 p3,v2,z2] 109;obtain ⟨W0,aD⟩:=Haa ((w.alloc (.cells #[.int .i64 p0,u,.int .i64 p2,.int .i64 p3,v,z] 109)).alloc (.cells #[.int .i64 p0,u2,.int .i64 p2,.int .i64 p3,v2,z2] 109));rw [aD.out]at h1 h2⊢;obtain ⟨B,hB⟩:=Haa w.heap.size;obtain ⟨B1,dM⟩:=Haa (B+1);rw [hB.out,dM.out]at h1;rw [hB.out,dM.out];have kD:=hd h2
 have HD:Hid (∀V,Below W0.heap.size W0 V->V.cell? ⟨B,0,none⟩=some (.int .i64 p0)/\V.cell? ⟨B,1,none⟩=some (u)/\V.cell? ⟨B,2,none⟩=some (.int .i64 p2)/\V.cell? ⟨B,3,none⟩=some (.int .i64 p3)/\V.cell? ⟨B,4,none⟩=some (v)/\V.cell? ⟨B,5,none⟩=some (z)/\V.cell? ⟨B1,0,none⟩=some (.int .i64 p0)/\V.cell? ⟨B1,1,none⟩=some (u2)/\V.cell? ⟨B1,2,none⟩=some (.int .i64 p2)/\V.cell? ⟨B1,3,none⟩=some (.int .i64 p3)/\V.cell? ⟨B1,4,none⟩=some (v2)/\V.cell? ⟨B1,5,none⟩=some (z2)):=hd (fun V hb=>by
  obtain ⟨e1,e2⟩:=h1 V hb
  exact ⟨cI e1 rfl,cI e1 rfl,cI e1 rfl,cI e1 rfl,cI e1 rfl,cI e1 rfl,cI e2 rfl,cI e2 rfl,cI e2 rfl,cI e2 rfl,cI e2 rfl,cI e2 rfl⟩)
 have HC:Hid (∀V,Below W0.heap.size W0 V->Below w.heap.size w V):=hd (fun V hb=>kD.out.trans (hb.mono kD.out.size));clear h1 h2 aD;obtain ⟨a0,a1,a2,a3,a4,a5,b0,b1,b2,b3,b4,b5⟩:=HD.out W0 (aak _ _);go_wp2_with (first|(go_at_call 64;(with_reducible refine (wU.out W0 (HC.out _ (aak W0.heap.size W0))).mono ?_);rintro e w1 ⟨rfl,Dp⟩;have oh:=hd ((aak W0.heap.size W0).trans (Dp.mono (aak W0.heap.size W0).size));obtain ⟨lV,lW,lX,j_,kM,IE,Fe,Zx,c18,c19,c110,c111⟩:=HD.out w1 oh.out)|(go_at_call 66;(with_reducible refine (kZ.out w1 (HC.out _ oh.out)).mono ?_);rintro e w2 ⟨rfl,IG⟩;have xI:=hd (oh.out.trans (IG.mono oh.out.size));obtain ⟨Zy,Zz,ZA,ZB,ZC,ZD,c26,c27,c28,c29,c210,c211⟩:=HD.out w2 xI.out)|(go_at_call 68;(with_reducible refine (uz.out w2 (HC.out _ xI.out)).mono ?_);rintro e w3 ⟨rfl,b3x⟩;have ZE:=hd (xI.out.trans (b3x.mono xI.out.size));obtain ⟨c30,c31,c32,c33,c34,c35,c36,c37,c38,c39,c310,c311⟩:=HD.out w3 ZE.out));go_ret;exact ⟨rfl,HC.out _ ZE.out⟩
theorem Ws(l:List Value)(h:l.length=1):∃u0,l=[u0]:=by
 match l,h with
 |[u0],_=>exact ⟨u0,rfl⟩
theorem alike_i64(hA:b_ 1 iE w va xs)(hB:b_ 1 iE w vb xs)
 (hS:∀W,Below w.heap.size w W->∀ca cb x,iE W ca x->iE W cb x->Calls prog 96 #[ca.getD 0 undef,cb.getD 0 undef] W fun e w'=>e=.returned (.bool true)/\Below W.heap.size W w')
 (hE:∀W cs x,Below w.heap.size w W->iE w cs x->iE W cs x):
 Calls prog 95 #[va,vb,.func (.func 96) #[] #[]] w fun e w'=>e=.returned (.bool true)/\Below w.heap.size w w':=by
 obtain ⟨a,c,rfl,iU,hA⟩:=hA.at' (by decide);obtain ⟨b,d,rfl,-,hB⟩:=hB.at' (by decide);have HA:=hd hA;have HB:=hd hB;have HS:=hd hS;have HE:=hd hE;unfold iD at iU;clear hA hB hS hE;obtain ⟨n,hn⟩:=Haa xs.length;rw [hn.out]at iU HA HB⊢;clear hn;go_enter func95,ntmps95;go_wp2_with fail;go_loopg [15] n (fun k v15 wr=>∃(i:Nat),v15=.int .i64 (i:Int)/\i+k=n/\Hid (Below w.heap.size w wr))
 case atStart=>exact ⟨0,rfl,by omega,hd (aak _ _)⟩
 case round=>
  obtain ⟨i,rfl,dh,aj⟩:=hrel;by_cases af:i<n
  ·have fI:(i:Int)<(n:Int):=by omega
   obtain ⟨ga,oa,jT,ea,lp,x1,x2⟩:=HA.out i af;obtain ⟨gb,ob,kF,eb,lq,y1,y2⟩:=HB.out i af;subst ea eb;have bH:=aj.out.trans ((fu wr).mono aj.out.size);have aJ:=HS.out wr.drew bH jT kF _ (HE.out _ _ _ bH x1) (HE.out _ _ _ bH y1);clear x1 y1 bH;obtain ⟨u0,rfl⟩:=Ws jT lp;obtain ⟨v0,rfl⟩:=Ws kF lq;have HG:Hid (∀W,Below wr.heap.size wr W->W.cell? ⟨ga,oa+i,none⟩=some u0/\W.cell? ⟨gb,ob+i,none⟩=some v0):=hd (fun W hb=>⟨(by have:=x2 W (aj.out.trans (hb.mono aj.out.size)) 0 _ rfl;simpa using this),(by have:=y2 W (aj.out.trans (hb.mono aj.out.size)) 0 _ rfl;simpa using this)⟩);simp only [List.getD_cons_zero]at aJ;obtain ⟨f0,f1⟩:=HG.out wr (fk wr);clear x2 y2;go_upto_region 6 with fail;go_cut [28] (fun v28 wy=>v28=.bool false/\Hid (Below w.heap.size w wy))
   case first=>
    go_region_held3 (fun w'=>w'.cell? ⟨ga,oa+i,none⟩=some u0/\w'.cell? ⟨gb,ob+i,none⟩=some v0) (go_keep)
     (first
      |(go_at_call 96;(with_reducible refine aJ.mono ?_);rintro e w2 ⟨rfl,aI⟩;have iq:=hd (cC aI);obtain ⟨e0,e1⟩:=HG.out w2 iq.out))
    all_goals (
     go_wp2_with fail;go_meet
     case rel=>exact ⟨rfl,hd (aj.out.trans (iq.out.mono aj.out.size))⟩)
   case rest=>
    obtain ⟨rfl,fS⟩:=hcut;clear HG f0 f1 aJ;go_wp2_with fail;go_roundg (gk-1)
    case rel=>exact ⟨i+1,by go_num,by omega,fS⟩
    case measure=>omega
  ·obtain rfl:i=n:=by omega
   go_wp2_with fail;go_ret;exact ⟨rfl,aj.out⟩
theorem Wt(l:List Value)(h:l.length=2):∃u0 u1,l=[u0,u1]:=by
 match l,h with
 |[u0,u1],_=>exact ⟨u0,u1,rfl⟩
theorem alike_wai{xs:List (Int×Int)}(hA:b_ 2 wE w va xs)(hB:b_ 2 wE w vb xs)
 (hS:∀W,Below w.heap.size w W->∀ca cb x,wE W ca x->wE W cb x->Calls prog 98 #[.agg ca.toArray,.agg cb.toArray] W fun e w'=>e=.returned (.bool true)/\Below W.heap.size W w')
 (hE:∀W cs x,Below w.heap.size w W->wE w cs x->wE W cs x):
 Calls prog 97 #[va,vb,.func (.func 98) #[] #[]] w fun e w'=>e=.returned (.bool true)/\Below w.heap.size w w':=by
 obtain ⟨a,c,rfl,iU,hA⟩:=hA.at' (by decide);obtain ⟨b,d,rfl,-,hB⟩:=hB.at' (by decide);have HA:=hd hA;have HB:=hd hB;have HS:=hd hS;have HE:=hd hE;unfold iD at iU;clear hA hB hS hE;obtain ⟨n,hn⟩:=Haa xs.length;rw [hn.out]at iU HA HB⊢;clear hn;go_enter func97,ntmps97;go_wp2_with fail;go_loopg [15] n (fun k v15 wr=>∃(i:Nat),v15=.int .i64 (i:Int)/\i+k=n/\Hid (Below w.heap.size w wr))
 case atStart=>exact ⟨0,rfl,by omega,hd (aak _ _)⟩
 case round=>
  obtain ⟨i,rfl,dh,aj⟩:=hrel;by_cases af:i<n
  ·have fI:(i:Int)<(n:Int):=by omega
   obtain ⟨ga,oa,jT,ea,lp,x1,x2⟩:=HA.out i af;obtain ⟨gb,ob,kF,eb,lq,y1,y2⟩:=HB.out i af;subst ea eb;have bH:=aj.out.trans ((fu wr).mono aj.out.size);have aJ:=HS.out wr.drew bH jT kF _ (HE.out _ _ _ bH x1) (HE.out _ _ _ bH y1);clear x1 y1 bH;obtain ⟨u0,u1,rfl⟩:=Wt jT lp;obtain ⟨v0,v1,rfl⟩:=Wt kF lq;have HG:Hid (∀W,Below wr.heap.size wr W->W.cell? ⟨ga,oa+i*2,none⟩=some u0/\W.cell? ⟨ga,oa+i*2+1,none⟩=some u1/\W.cell? ⟨gb,ob+i*2,none⟩=some v0/\W.cell? ⟨gb,ob+i*2+1,none⟩=some v1):=hd (fun W hb=>⟨x2 W (aj.out.trans (hb.mono aj.out.size)) 0 _ rfl,x2 W (aj.out.trans (hb.mono aj.out.size)) 1 _ rfl,y2 W (aj.out.trans (hb.mono aj.out.size)) 0 _ rfl,y2 W (aj.out.trans (hb.mono aj.out.size)) 1 _ rfl⟩);obtain ⟨f0,f1,f2,f3⟩:=HG.out wr (fk wr);clear x2 y2;go_upto_region 6 with fail;go_cut [28] (fun v28 wy=>v28=.bool false/\Hid (Below w.heap.size w wy))
   case first=>
    go_region_held3 (fun w'=>w'.cell? ⟨ga,oa+i*2,none⟩=some u0/\w'.cell? ⟨ga,oa+i*2+1,none⟩=some u1/\w'.cell? ⟨gb,ob+i*2,none⟩=some v0/\w'.cell? ⟨gb,ob+i*2+1,none⟩=some v1) (go_keep)
     (first
      |(go_at_call 98;(with_reducible refine aJ.mono ?_);rintro e w2 ⟨rfl,aI⟩;have iq:=hd (cC aI);obtain ⟨e0,e1,e2,e3⟩:=HG.out w2 iq.out))
    all_goals (
     go_wp2_with fail;go_meet
     case rel=>exact ⟨rfl,hd (aj.out.trans (iq.out.mono aj.out.size))⟩)
   case rest=>
    obtain ⟨rfl,fS⟩:=hcut;clear HG f0 f1 f2 f3 aJ;go_wp2_with fail;go_roundg (gk-1)
    case rel=>exact ⟨i+1,by go_num,by omega,fS⟩
    case measure=>omega
  ·obtain rfl:i=n:=by omega
   go_wp2_with fail;go_ret;exact ⟨rfl,aj.out⟩
theorem alike_i64s(hA:b_ 1 iE w va xs)(hB:b_ 1 iE w vb xs):Calls prog 95 #[va,vb,.func (.func 96) #[] #[]] w fun e w'=>e=.returned (.bool true)/\Below w.heap.size w w':=
 alike_i64 hA hB (fun W hW ca cb x e1 e2=>by
  obtain rfl:ca=[.int .i64 x]:=e1
  obtain rfl:cb=[.int .i64 x]:=e2
  exact equal_i64 x W) (fun W cs x hb h=>h)
theorem alike_wais{xs:List (Int×Int)}(hA:b_ 2 wE w va xs)(hB:b_ 2 wE w vb xs):Calls prog 97 #[va,vb,.func (.func 98) #[] #[]] w fun e w'=>e=.returned (.bool true)/\Below w.heap.size w w':=
 alike_wai hA hB (fun W hW ca cb x e1 e2=>by
  obtain rfl:ca=[.int .i64 x.1,.int .i64 x.2]:=e1
  obtain rfl:cb=[.int .i64 x.1,.int .i64 x.2]:=e2
  exact equal_wai x W) (fun W cs x hb h=>h)
theorem sameLane_any{x:mW}(h1:lE w ca x)(h2:lE w cb x):
 Calls prog 71 #[.agg ca.toArray,.agg cb.toArray] w fun e w'=>e=.returned (.bool true)/\Below w.heap.size w w':=by
 obtain ⟨pv,pw,pt,pd⟩:=x;obtain ⟨u,v,e1,k1,k2⟩:=h1;simp only at e1 k1 k2;subst e1;obtain ⟨u2,v2,e2,m1,m2⟩:=h2;simp only at e2 m1 m2;subst e2;have wU:Hid (∀V,Below w.heap.size w V->Calls prog 95 #[u,u2,.func (.func 96) #[] #[]] V fun e w'=>e=.returned (.bool true)/\Below V.heap.size V w'):=hd fun V hb=>alike_i64s (k1.below hb fun _ _ h=>h) (m1.below hb fun _ _ h=>h)
 have kZ:Hid (∀V,Below w.heap.size w V->Calls prog 97 #[v,v2,.func (.func 98) #[] #[]] V fun e w'=>e=.returned (.bool true)/\Below V.heap.size V w'):=hd fun V hb=>alike_wais (k2.below hb fun _ _ h=>h) (m2.below hb fun _ _ h=>h)
 clear k1 m1 k2 m2;go_enter func71,ntmps71;go_upto_region 1 with fail;obtain ⟨h1,h2⟩:=DV (w:=w) #[u,v,.int .i64 pt,.int .i64 pd] #[u2,v2,.int .i64 pt,.int .i64 pd] 147;obtain ⟨W0,aD⟩:=Haa ((w.alloc (.cells #[u,v,.int .i64 pt,.int .i64 pd] 147)).alloc (.cells #[u2,v2,.int .i64 pt,.int .i64 pd] 147));rw [aD.out]at h1 h2⊢;obtain ⟨B,hB⟩:=Haa w.heap.size;obtain ⟨B1,dM⟩:=Haa (B+1);rw [hB.out,dM.out]at h1;rw [hB.out,dM.out];have kD:=hd h2
 have HD:Hid (∀V,Below W0.heap.size W0 V->V.cell? ⟨B,0,none⟩=some (u)/\V.cell? ⟨B,1,none⟩=some (v)/\V.cell? ⟨B,2,none⟩=some (.int .i64 pt)/\V.cell? ⟨B,3,none⟩=some (.int .i64 pd)/\V.cell? ⟨B1,0,none⟩=some (u2)/\V.cell? ⟨B1,1,none⟩=some (v2)/\V.cell? ⟨B1,2,none⟩=some (.int .i64 pt)/\V.cell? ⟨B1,3,none⟩=some (.int .i64 pd)):=hd (fun V hb=>by
  obtain ⟨e1,e2⟩:=h1 V hb
  exact ⟨cI e1 rfl,cI e1 rfl,cI e1 rfl,cI e1 rfl,cI e2 rfl,cI e2 rfl,cI e2 rfl,cI e2 rfl⟩)
 have HC:Hid (∀V,Below W0.heap.size W0 V->Below w.heap.size w V):=hd (fun V hb=>kD.out.trans (hb.mono kD.out.size));clear h1 h2 aD;obtain ⟨a0,a1,a2,a3,b0,b1,b2,b3⟩:=HD.out W0 (aak _ _);go_wp2_with (first|(go_at_call 95;(with_reducible refine (wU.out W0 (HC.out _ (aak W0.heap.size W0))).mono ?_);rintro e w1 ⟨rfl,Dp⟩;have oh:=hd ((aak W0.heap.size W0).trans (Dp.mono (aak W0.heap.size W0).size));obtain ⟨lV,lW,lX,j_,kM,IE,Fe,Zx⟩:=HD.out w1 oh.out)|(go_at_call 97;(with_reducible refine (kZ.out w1 (HC.out _ oh.out)).mono ?_);rintro e w2 ⟨rfl,IG⟩;have xI:=hd (oh.out.trans (IG.mono oh.out.size));obtain ⟨Zy,Zz,ZA,ZB,ZC,ZD,c26,c27⟩:=HD.out w2 xI.out));go_ret;exact ⟨rfl,HC.out _ xI.out⟩
theorem Wu(l:List Value)(h:l.length=4):∃u0 u1 u2 u3,l=[u0,u1,u2,u3]:=by
 match l,h with
 |[u0,u1,u2,u3],_=>exact ⟨u0,u1,u2,u3,rfl⟩
theorem alike_lan{xs:List (mW)}(hA:b_ 4 lE w va xs)(hB:b_ 4 lE w vb xs)
 (hS:∀W,Below w.heap.size w W->∀ca cb x,lE W ca x->lE W cb x->Calls prog 71 #[.agg ca.toArray,.agg cb.toArray] W fun e w'=>e=.returned (.bool true)/\Below W.heap.size W w')
 (hE:∀W cs x,Below w.heap.size w W->lE w cs x->lE W cs x):
 Calls prog 70 #[va,vb,.func (.func 71) #[] #[]] w fun e w'=>e=.returned (.bool true)/\Below w.heap.size w w':=by
 obtain ⟨a,c,rfl,iU,hA⟩:=hA.at' (by decide);obtain ⟨b,d,rfl,-,hB⟩:=hB.at' (by decide);have HA:=hd hA;have HB:=hd hB;have HS:=hd hS;have HE:=hd hE;unfold iD at iU;clear hA hB hS hE;obtain ⟨n,hn⟩:=Haa xs.length;rw [hn.out]at iU HA HB⊢;clear hn;go_enter func70,ntmps70;go_wp2_with fail;go_loopg [15] n (fun k v15 wr=>∃(i:Nat),v15=.int .i64 (i:Int)/\i+k=n/\Hid (Below w.heap.size w wr))
 case atStart=>exact ⟨0,rfl,by omega,hd (aak _ _)⟩
 case round=>
  obtain ⟨i,rfl,dh,aj⟩:=hrel;by_cases af:i<n
  ·have fI:(i:Int)<(n:Int):=by omega
   obtain ⟨ga,oa,jT,ea,lp,x1,x2⟩:=HA.out i af;obtain ⟨gb,ob,kF,eb,lq,y1,y2⟩:=HB.out i af;subst ea eb;have bH:=aj.out.trans ((fu wr).mono aj.out.size);have aJ:=HS.out wr.drew bH jT kF _ (HE.out _ _ _ bH x1) (HE.out _ _ _ bH y1);clear x1 y1 bH;obtain ⟨u0,u1,u2,u3,rfl⟩:=Wu jT lp;obtain ⟨v0,v1,v2,v3,rfl⟩:=Wu kF lq;have HG:Hid (∀W,Below wr.heap.size wr W->W.cell? ⟨ga,oa+i*4,none⟩=some u0/\W.cell? ⟨ga,oa+i*4+1,none⟩=some u1/\W.cell? ⟨ga,oa+i*4+2,none⟩=some u2/\W.cell? ⟨ga,oa+i*4+3,none⟩=some u3/\W.cell? ⟨gb,ob+i*4,none⟩=some v0/\W.cell? ⟨gb,ob+i*4+1,none⟩=some v1/\W.cell? ⟨gb,ob+i*4+2,none⟩=some v2/\W.cell? ⟨gb,ob+i*4+3,none⟩=some v3):=hd (fun W hb=>⟨x2 W (aj.out.trans (hb.mono aj.out.size)) 0 _ rfl,x2 W (aj.out.trans (hb.mono aj.out.size)) 1 _ rfl,x2 W (aj.out.trans (hb.mono aj.out.size)) 2 _ rfl,x2 W (aj.out.trans (hb.mono aj.out.size)) 3 _ rfl,y2 W (aj.out.trans (hb.mono aj.out.size)) 0 _ rfl,y2 W (aj.out.trans (hb.mono aj.out.size)) 1 _ rfl,y2 W (aj.out.trans (hb.mono aj.out.size)) 2 _ rfl,y2 W (aj.out.trans (hb.mono aj.out.size)) 3 _ rfl⟩);obtain ⟨f0,f1,f2,f3,f4,f5,f6,f7⟩:=HG.out wr (fk wr);clear x2 y2;go_upto_region 6 with fail;go_cut [28] (fun v28 wy=>v28=.bool false/\Hid (Below w.heap.size w wy))
   case first=>
    go_region_held3 (fun w'=>w'.cell? ⟨ga,oa+i*4,none⟩=some u0/\w'.cell? ⟨ga,oa+i*4+1,none⟩=some u1/\w'.cell? ⟨ga,oa+i*4+2,none⟩=some u2/\w'.cell? ⟨ga,oa+i*4+3,none⟩=some u3/\w'.cell? ⟨gb,ob+i*4,none⟩=some v0/\w'.cell? ⟨gb,ob+i*4+1,none⟩=some v1/\w'.cell? ⟨gb,ob+i*4+2,none⟩=some v2/\w'.cell? ⟨gb,ob+i*4+3,none⟩=some v3) (go_keep)
     (first
      |(go_at_call 71;(with_reducible refine aJ.mono ?_);rintro e w2 ⟨rfl,aI⟩;have iq:=hd (cC aI);obtain ⟨e0,e1,e2,e3,e4,e5,e6,e7⟩:=HG.out w2 iq.out))
    all_goals (
     go_wp2_with fail;go_meet
     case rel=>exact ⟨rfl,hd (aj.out.trans (iq.out.mono aj.out.size))⟩)
   case rest=>
    obtain ⟨rfl,fS⟩:=hcut;clear HG f0 f1 f2 f3 f4 f5 f6 f7 aJ;go_wp2_with fail;go_roundg (gk-1)
    case rel=>exact ⟨i+1,by go_num,by omega,fS⟩
    case measure=>omega
  ·obtain rfl:i=n:=by omega
   go_wp2_with fail;go_ret;exact ⟨rfl,aj.out⟩
theorem alike_lans{xs:List (mW)}(hA:b_ 4 lE w va xs)(hB:b_ 4 lE w vb xs):Calls prog 70 #[va,vb,.func (.func 71) #[] #[]] w fun e w'=>e=.returned (.bool true)/\Below w.heap.size w w':=
 alike_lan hA hB (fun W hW ca cb x e1 e2=>by
  exact sameLane_any e1 e2) (fun W cs x hb h=>h.below hb)
theorem sameProcess_any{x:n_}(h1:rE w ca x)(h2:rE w cb x):
 Calls prog 52 #[.agg ca.toArray,.agg cb.toArray] w fun e w'=>e=.returned (.bool true)/\Below w.heap.size w w':=by
 obtain ⟨ps,pp,⟨p0,p1,p2,p3,p4,p5,p6,p7⟩,pc,pi,pf,pw,pl⟩:=x;obtain ⟨v,e1,k1⟩:=h1;simp only at e1 k1;subst e1;obtain ⟨v2,e2,m1⟩:=h2;simp only at e2 m1;subst e2;have wU:Hid (∀V,Below w.heap.size w V->Calls prog 70 #[v,v2,.func (.func 71) #[] #[]] V fun e w'=>e=.returned (.bool true)/\Below V.heap.size V w'):=hd fun V hb=>alike_lans (k1.below hb fun _ _ h=>h.below hb) (m1.below hb fun _ _ h=>h.below hb)
 clear k1 m1;have heq:∀W,(Op.equalIn 10000 112 (.agg (Fb (Rg.mk p0 p1 p2 p3 p4 p5 p6 p7))) (.agg (Fb (Rg.mk p0 p1 p2 p3 p4 p5 p6 p7)))).run prog W=.ok true W:=fun W=>by rw [eq8,BZ rfl]
 unfold Fb at heq;go_enter func52,ntmps52;go_upto_region 1 with fail;obtain ⟨h1,h2⟩:=DV (w:=w) #[.int .i64 ps,.int .i64 pp,.int .i64 p0,.int .i64 p1,.int .i64 p2,.int .i64 p3,.int .i64 p4,.int .i64 p5,.int .i64 p6,.int .i64 p7,.int .i64 pc,.int .i64 pi,.bool pf,.int .i64 pw,v] #[.int .i64 ps,.int .i64 pp,.int .i64 p0,.int .i64 p1,.int .i64 p2,.int .i64 p3,.int .i64 p4,.int .i64 p5,.int .i64 p6,.int .i64 p7,.int .i64 pc,.int .i64 pi,.bool pf,.int .i64 pw,v2] 115;obtain ⟨W0,aD⟩:=Haa ((w.alloc (.cells #[.int .i64 ps,.int .i64 pp,.int .i64 p0,.int .i64 p1,.int .i64 p2,.int .i64 p3,.int .i64 p4,.int .i64 p5,.int .i64 p6,.int .i64 p7,.int .i64 pc,.int .i64 pi,.bool pf,.int .i64 pw,v] 115)).alloc (.cells #[.int .i64 ps,.int .i64 pp,.int .i64 p0,.int .i64 p1,.int .i64 p2,.int .i64 p3,.int .i64 p4,.int .i64 p5,.int .i64 p6,.int .i64 p7,.int .i64 pc,.int .i64 pi,.bool pf,.int .i64 pw,v2] 115));rw [aD.out]at h1 h2⊢;obtain ⟨B,hB⟩:=Haa w.heap.size;obtain ⟨B1,dM⟩:=Haa (B+1);rw [hB.out,dM.out]at h1;rw [hB.out,dM.out];have kD:=hd h2
 have HD:Hid (∀V,Below W0.heap.size W0 V->V.cell? ⟨B,0,none⟩=some (.int .i64 ps)/\V.cell? ⟨B,1,none⟩=some (.int .i64 pp)/\V.cell? ⟨B,2,none⟩=some (.int .i64 p0)/\V.cell? ⟨B,3,none⟩=some (.int .i64 p1)/\V.cell? ⟨B,4,none⟩=some (.int .i64 p2)/\V.cell? ⟨B,5,none⟩=some (.int .i64 p3)/\V.cell? ⟨B,6,none⟩=some (.int .i64 p4)/\V.cell? ⟨B,7,none⟩=some (.int .i64 p5)/\V.cell? ⟨B,8,none⟩=some (.int .i64 p6)/\V.cell? ⟨B,9,none⟩=some (.int .i64 p7)/\V.cell? ⟨B,10,none⟩=some (.int .i64 pc)/\V.cell? ⟨B,11,none⟩=some (.int .i64 pi)/\V.cell? ⟨B,12,none⟩=some (.bool pf)/\V.cell? ⟨B,13,none⟩=some (.int .i64 pw)/\V.cell? ⟨B,14,none⟩=some (v)/\V.cell? ⟨B1,0,none⟩=some (.int .i64 ps)/\V.cell? ⟨B1,1,none⟩=some (.int .i64 pp)/\V.cell? ⟨B1,2,none⟩=some (.int .i64 p0)/\V.cell? ⟨B1,3,none⟩=some (.int .i64 p1)/\V.cell? ⟨B1,4,none⟩=some (.int .i64 p2)/\V.cell? ⟨B1,5,none⟩=some (.int .i64 p3)/\V.cell? ⟨B1,6,none⟩=some (.int .i64 p4)/\V.cell? ⟨B1,7,none⟩=some (.int .i64 p5)/\V.cell? ⟨B1,8,none⟩=some (.int .i64 p6)/\V.cell? ⟨B1,9,none⟩=some (.int .i64 p7)/\V.cell? ⟨B1,10,none⟩=some (.int .i64 pc)/\V.cell? ⟨B1,11,none⟩=some (.int .i64 pi)/\V.cell? ⟨B1,12,none⟩=some (.bool pf)/\V.cell? ⟨B1,13,none⟩=some (.int .i64 pw)/\V.cell? ⟨B1,14,none⟩=some (v2)):=hd (fun V hb=>by
  obtain ⟨e1,e2⟩:=h1 V hb
  exact ⟨cI e1 rfl,cI e1 rfl,cI e1 rfl,cI e1 rfl,cI e1 rfl,cI e1 rfl,cI e1 rfl,cI e1 rfl,cI e1 rfl,cI e1 rfl,cI e1 rfl,cI e1 rfl,cI e1 rfl,cI e1 rfl,cI e1 rfl,cI e2 rfl,cI e2 rfl,cI e2 rfl,cI e2 rfl,cI e2 rfl,cI e2 rfl,cI e2 rfl,cI e2 rfl,cI e2 rfl,cI e2 rfl,cI e2 rfl,cI e2 rfl,cI e2 rfl,cI e2 rfl,cI e2 rfl⟩)
 have HC:Hid (∀V,Below W0.heap.size W0 V->Below w.heap.size w V):=hd (fun V hb=>kD.out.trans (hb.mono kD.out.size));clear h1 h2 aD;obtain ⟨a0,a1,a2,a3,a4,a5,a6,a7,a8,a9,a10,a11,a12,a13,a14,b0,b1,b2,b3,b4,b5,b6,b7,b8,b9,b10,b11,b12,b13,b14⟩:=HD.out W0 (aak _ _);go_wp2_with (first|(go_at_call 70;(with_reducible refine (wU.out W0 (HC.out _ (aak W0.heap.size W0))).mono ?_);rintro e w1 ⟨rfl,Dp⟩;have oh:=hd ((aak W0.heap.size W0).trans (Dp.mono (aak W0.heap.size W0).size));obtain ⟨lV,lW,lX,j_,kM,IE,Fe,Zx,c18,c19,c110,c111,c112,c113,c114,c115,c116,c117,c118,c119,c120,c121,c122,c123,c124,c125,c126,c127,c128,c129⟩:=HD.out w1 oh.out));go_ret;exact ⟨rfl,HC.out _ oh.out⟩
theorem Wv(l:List Value)(h:l.length=6):∃u0 u1 u2 u3 u4 u5,l=[u0,u1,u2,u3,u4,u5]:=by
 match l,h with
 |[u0,u1,u2,u3,u4,u5],_=>exact ⟨u0,u1,u2,u3,u4,u5,rfl⟩
theorem alike_par{xs:List (og)}(hA:b_ 6 pE w va xs)(hB:b_ 6 pE w vb xs)
 (hS:∀W,Below w.heap.size w W->∀ca cb x,pE W ca x->pE W cb x->Calls prog 50 #[.agg ca.toArray,.agg cb.toArray] W fun e w'=>e=.returned (.bool true)/\Below W.heap.size W w')
 (hE:∀W cs x,Below w.heap.size w W->pE w cs x->pE W cs x):
 Calls prog 49 #[va,vb,.func (.func 50) #[] #[]] w fun e w'=>e=.returned (.bool true)/\Below w.heap.size w w':=by
 obtain ⟨a,c,rfl,iU,hA⟩:=hA.at' (by decide);obtain ⟨b,d,rfl,-,hB⟩:=hB.at' (by decide);have HA:=hd hA;have HB:=hd hB;have HS:=hd hS;have HE:=hd hE;unfold iD at iU;clear hA hB hS hE;obtain ⟨n,hn⟩:=Haa xs.length;rw [hn.out]at iU HA HB⊢;clear hn;go_enter func49,ntmps49;go_wp2_with fail;go_loopg [15] n (fun k v15 wr=>∃(i:Nat),v15=.int .i64 (i:Int)/\i+k=n/\Hid (Below w.heap.size w wr))
 case atStart=>exact ⟨0,rfl,by omega,hd (aak _ _)⟩
 case round=>
  obtain ⟨i,rfl,dh,aj⟩:=hrel;by_cases af:i<n
  ·have fI:(i:Int)<(n:Int):=by omega
   obtain ⟨ga,oa,jT,ea,lp,x1,x2⟩:=HA.out i af;obtain ⟨gb,ob,kF,eb,lq,y1,y2⟩:=HB.out i af;subst ea eb;have bH:=aj.out.trans ((fu wr).mono aj.out.size);have aJ:=HS.out wr.drew bH jT kF _ (HE.out _ _ _ bH x1) (HE.out _ _ _ bH y1);clear x1 y1 bH;obtain ⟨u0,u1,u2,u3,u4,u5,rfl⟩:=Wv jT lp;obtain ⟨v0,v1,v2,v3,v4,v5,rfl⟩:=Wv kF lq;have HG:Hid (∀W,Below wr.heap.size wr W->W.cell? ⟨ga,oa+i*6,none⟩=some u0/\W.cell? ⟨ga,oa+i*6+1,none⟩=some u1/\W.cell? ⟨ga,oa+i*6+2,none⟩=some u2/\W.cell? ⟨ga,oa+i*6+3,none⟩=some u3/\W.cell? ⟨ga,oa+i*6+4,none⟩=some u4/\W.cell? ⟨ga,oa+i*6+5,none⟩=some u5/\W.cell? ⟨gb,ob+i*6,none⟩=some v0/\W.cell? ⟨gb,ob+i*6+1,none⟩=some v1/\W.cell? ⟨gb,ob+i*6+2,none⟩=some v2/\W.cell? ⟨gb,ob+i*6+3,none⟩=some v3/\W.cell? ⟨gb,ob+i*6+4,none⟩=some v4/\W.cell? ⟨gb,ob+i*6+5,none⟩=some v5):=hd (fun W hb=>⟨x2 W (aj.out.trans (hb.mono aj.out.size)) 0 _ rfl,x2 W (aj.out.trans (hb.mono aj.out.size)) 1 _ rfl,x2 W (aj.out.trans (hb.mono aj.out.size)) 2 _ rfl,x2 W (aj.out.trans (hb.mono aj.out.size)) 3 _ rfl,x2 W (aj.out.trans (hb.mono aj.out.size)) 4 _ rfl,x2 W (aj.out.trans (hb.mono aj.out.size)) 5 _ rfl,y2 W (aj.out.trans (hb.mono aj.out.size)) 0 _ rfl,y2 W (aj.out.trans (hb.mono aj.out.size)) 1 _ rfl,y2 W (aj.out.trans (hb.mono aj.out.size)) 2 _ rfl,y2 W (aj.out.trans (hb.mono aj.out.size)) 3 _ rfl,y2 W (aj.out.trans (hb.mono aj.out.size)) 4 _ rfl,y2 W (aj.out.trans (hb.mono aj.out.size)) 5 _ rfl⟩);obtain ⟨f0,f1,f2,f3,f4,f5,f6,f7,f8,f9,f10,f11⟩:=HG.out wr (fk wr);clear x2 y2;go_upto_region 6 with fail;go_cut [28] (fun v28 wy=>v28=.bool false/\Hid (Below w.heap.size w wy))
   case first=>
    go_region_held3 (fun w'=>w'.cell? ⟨ga,oa+i*6,none⟩=some u0/\w'.cell? ⟨ga,oa+i*6+1,none⟩=some u1/\w'.cell? ⟨ga,oa+i*6+2,none⟩=some u2/\w'.cell? ⟨ga,oa+i*6+3,none⟩=some u3/\w'.cell? ⟨ga,oa+i*6+4,none⟩=some u4/\w'.cell? ⟨ga,oa+i*6+5,none⟩=some u5/\w'.cell? ⟨gb,ob+i*6,none⟩=some v0/\w'.cell? ⟨gb,ob+i*6+1,none⟩=some v1/\w'.cell? ⟨gb,ob+i*6+2,none⟩=some v2/\w'.cell? ⟨gb,ob+i*6+3,none⟩=some v3/\w'.cell? ⟨gb,ob+i*6+4,none⟩=some v4/\w'.cell? ⟨gb,ob+i*6+5,none⟩=some v5) (go_keep)
     (first
      |(go_at_call 50;(with_reducible refine aJ.mono ?_);rintro e w2 ⟨rfl,aI⟩;have iq:=hd (cC aI);obtain ⟨e0,e1,e2,e3,e4,e5,e6,e7,e8,e9,II,IJ⟩:=HG.out w2 iq.out))
    all_goals (
     go_wp2_with fail;go_meet
     case rel=>exact ⟨rfl,hd (aj.out.trans (iq.out.mono aj.out.size))⟩)
   case rest=>
    obtain ⟨rfl,fS⟩:=hcut;clear HG f0 f1 f2 f3 f4 f5 f6 f7 f8 f9 f10 f11 aJ;go_wp2_with fail;go_roundg (gk-1)
    case rel=>exact ⟨i+1,by go_num,by omega,fS⟩
    case measure=>omega
  ·obtain rfl:i=n:=by omega
   go_wp2_with fail;go_ret;exact ⟨rfl,aj.out⟩
theorem Ww(l:List Value)(h:l.length=15):∃u0 u1 u2 u3 u4 u5 u6 u7 u8 u9 u10 u11 u12 u13 u14,l=[u0,u1,u2,u3,u4,u5,u6,u7,u8,u9,u10,u11,u12,u13,u14]:=by
 match l,h with
 |[u0,u1,u2,u3,u4,u5,u6,u7,u8,u9,u10,u11,u12,u13,u14],_=>exact ⟨u0,u1,u2,u3,u4,u5,u6,u7,u8,u9,u10,u11,u12,u13,u14,rfl⟩
theorem alike_pro{xs:List (n_)}(hA:b_ 15 rE w va xs)(hB:b_ 15 rE w vb xs)
 (hS:∀W,Below w.heap.size w W->∀ca cb x,rE W ca x->rE W cb x->Calls prog 52 #[.agg ca.toArray,.agg cb.toArray] W fun e w'=>e=.returned (.bool true)/\Below W.heap.size W w')
 (hE:∀W cs x,Below w.heap.size w W->rE w cs x->rE W cs x):
 Calls prog 51 #[va,vb,.func (.func 52) #[] #[]] w fun e w'=>e=.returned (.bool true)/\Below w.heap.size w w':=by
 obtain ⟨a,c,rfl,iU,hA⟩:=hA.at' (by decide);obtain ⟨b,d,rfl,-,hB⟩:=hB.at' (by decide);have HA:=hd hA;have HB:=hd hB;have HS:=hd hS;have HE:=hd hE;unfold iD at iU;clear hA hB hS hE;obtain ⟨n,hn⟩:=Haa xs.length;rw [hn.out]at iU HA HB⊢;clear hn;go_enter func51,ntmps51;go_wp2_with fail;go_loopg [15] n (fun k v15 wr=>∃(i:Nat),v15=.int .i64 (i:Int)/\i+k=n/\Hid (Below w.heap.size w wr))
 case atStart=>exact ⟨0,rfl,by omega,hd (aak _ _)⟩
 case round=>
  obtain ⟨i,rfl,dh,aj⟩:=hrel;by_cases af:i<n
  ·have fI:(i:Int)<(n:Int):=by omega
   obtain ⟨ga,oa,jT,ea,lp,x1,x2⟩:=HA.out i af;obtain ⟨gb,ob,kF,eb,lq,y1,y2⟩:=HB.out i af;subst ea eb;have bH:=aj.out.trans ((fu wr).mono aj.out.size);have aJ:=HS.out wr.drew bH jT kF _ (HE.out _ _ _ bH x1) (HE.out _ _ _ bH y1);clear x1 y1 bH;obtain ⟨u0,u1,u2,u3,u4,u5,u6,u7,u8,u9,u10,u11,u12,u13,u14,rfl⟩:=Ww jT lp;obtain ⟨v0,v1,v2,v3,v4,v5,v6,v7,v8,v9,v10,v11,v12,v13,v14,rfl⟩:=Ww kF lq;have HG:Hid (∀W,Below wr.heap.size wr W->W.cell? ⟨ga,oa+i*15,none⟩=some u0/\W.cell? ⟨ga,oa+i*15+1,none⟩=some u1/\W.cell? ⟨ga,oa+i*15+2,none⟩=some u2/\W.cell? ⟨ga,oa+i*15+3,none⟩=some u3/\W.cell? ⟨ga,oa+i*15+4,none⟩=some u4/\W.cell? ⟨ga,oa+i*15+5,none⟩=some u5/\W.cell? ⟨ga,oa+i*15+6,none⟩=some u6/\W.cell? ⟨ga,oa+i*15+7,none⟩=some u7/\W.cell? ⟨ga,oa+i*15+8,none⟩=some u8/\W.cell? ⟨ga,oa+i*15+9,none⟩=some u9/\W.cell? ⟨ga,oa+i*15+10,none⟩=some u10/\W.cell? ⟨ga,oa+i*15+11,none⟩=some u11/\W.cell? ⟨ga,oa+i*15+12,none⟩=some u12/\W.cell? ⟨ga,oa+i*15+13,none⟩=some u13/\W.cell? ⟨ga,oa+i*15+14,none⟩=some u14/\W.cell? ⟨gb,ob+i*15,none⟩=some v0/\W.cell? ⟨gb,ob+i*15+1,none⟩=some v1/\W.cell? ⟨gb,ob+i*15+2,none⟩=some v2/\W.cell? ⟨gb,ob+i*15+3,none⟩=some v3/\W.cell? ⟨gb,ob+i*15+4,none⟩=some v4/\W.cell? ⟨gb,ob+i*15+5,none⟩=some v5/\W.cell? ⟨gb,ob+i*15+6,none⟩=some v6/\W.cell? ⟨gb,ob+i*15+7,none⟩=some v7/\W.cell? ⟨gb,ob+i*15+8,none⟩=some v8/\W.cell? ⟨gb,ob+i*15+9,none⟩=some v9/\W.cell? ⟨gb,ob+i*15+10,none⟩=some v10/\W.cell? ⟨gb,ob+i*15+11,none⟩=some v11/\W.cell? ⟨gb,ob+i*15+12,none⟩=some v12/\W.cell? ⟨gb,ob+i*15+13,none⟩=some v13/\W.cell? ⟨gb,ob+i*15+14,none⟩=some v14):=hd (fun W hb=>⟨x2 W (aj.out.trans (hb.mono aj.out.size)) 0 _ rfl,x2 W (aj.out.trans (hb.mono aj.out.size)) 1 _ rfl,x2 W (aj.out.trans (hb.mono aj.out.size)) 2 _ rfl,x2 W (aj.out.trans (hb.mono aj.out.size)) 3 _ rfl,x2 W (aj.out.trans (hb.mono aj.out.size)) 4 _ rfl,x2 W (aj.out.trans (hb.mono aj.out.size)) 5 _ rfl,x2 W (aj.out.trans (hb.mono aj.out.size)) 6 _ rfl,x2 W (aj.out.trans (hb.mono aj.out.size)) 7 _ rfl,x2 W (aj.out.trans (hb.mono aj.out.size)) 8 _ rfl,x2 W (aj.out.trans (hb.mono aj.out.size)) 9 _ rfl,x2 W (aj.out.trans (hb.mono aj.out.size)) 10 _ rfl,x2 W (aj.out.trans (hb.mono aj.out.size)) 11 _ rfl,x2 W (aj.out.trans (hb.mono aj.out.size)) 12 _ rfl,x2 W (aj.out.trans (hb.mono aj.out.size)) 13 _ rfl,x2 W (aj.out.trans (hb.mono aj.out.size)) 14 _ rfl,y2 W (aj.out.trans (hb.mono aj.out.size)) 0 _ rfl,y2 W (aj.out.trans (hb.mono aj.out.size)) 1 _ rfl,y2 W (aj.out.trans (hb.mono aj.out.size)) 2 _ rfl,y2 W (aj.out.trans (hb.mono aj.out.size)) 3 _ rfl,y2 W (aj.out.trans (hb.mono aj.out.size)) 4 _ rfl,y2 W (aj.out.trans (hb.mono aj.out.size)) 5 _ rfl,y2 W (aj.out.trans (hb.mono aj.out.size)) 6 _ rfl,y2 W (aj.out.trans (hb.mono aj.out.size)) 7 _ rfl,y2 W (aj.out.trans (hb.mono aj.out.size)) 8 _ rfl,y2 W (aj.out.trans (hb.mono aj.out.size)) 9 _ rfl,y2 W (aj.out.trans (hb.mono aj.out.size)) 10 _ rfl,y2 W (aj.out.trans (hb.mono aj.out.size)) 11 _ rfl,y2 W (aj.out.trans (hb.mono aj.out.size)) 12 _ rfl,y2 W (aj.out.trans (hb.mono aj.out.size)) 13 _ rfl,y2 W (aj.out.trans (hb.mono aj.out.size)) 14 _ rfl⟩);obtain ⟨f0,f1,f2,f3,f4,f5,f6,f7,f8,f9,f10,f11,f12,f13,f14,f15,f16,f17,f18,f19,f20,f21,f22,f23,f24,f25,f26,f27,f28,f29⟩:=HG.out wr (fk wr);clear x2 y2;go_upto_region 6 with fail;go_cut [28] (fun v28 wy=>v28=.bool false/\Hid (Below w.heap.size w wy))
   case first=>
    go_region_held3 (fun w'=>w'.cell? ⟨ga,oa+i*15,none⟩=some u0/\w'.cell? ⟨ga,oa+i*15+1,none⟩=some u1/\w'.cell? ⟨ga,oa+i*15+2,none⟩=some u2/\w'.cell? ⟨ga,oa+i*15+3,none⟩=some u3/\w'.cell? ⟨ga,oa+i*15+4,none⟩=some u4/\w'.cell? ⟨ga,oa+i*15+5,none⟩=some u5/\w'.cell? ⟨ga,oa+i*15+6,none⟩=some u6/\w'.cell? ⟨ga,oa+i*15+7,none⟩=some u7/\w'.cell? ⟨ga,oa+i*15+8,none⟩=some u8/\w'.cell? ⟨ga,oa+i*15+9,none⟩=some u9/\w'.cell? ⟨ga,oa+i*15+10,none⟩=some u10/\w'.cell? ⟨ga,oa+i*15+11,none⟩=some u11/\w'.cell? ⟨ga,oa+i*15+12,none⟩=some u12/\w'.cell? ⟨ga,oa+i*15+13,none⟩=some u13/\w'.cell? ⟨ga,oa+i*15+14,none⟩=some u14/\w'.cell? ⟨gb,ob+i*15,none⟩=some v0/\w'.cell? ⟨gb,ob+i*15+1,none⟩=some v1/\w'.cell? ⟨gb,ob+i*15+2,none⟩=some v2/\w'.cell? ⟨gb,ob+i*15+3,none⟩=some v3/\w'.cell? ⟨gb,ob+i*15+4,none⟩=some v4/\w'.cell? ⟨gb,ob+i*15+5,none⟩=some v5/\w'.cell? ⟨gb,ob+i*15+6,none⟩=some v6/\w'.cell? ⟨gb,ob+i*15+7,none⟩=some v7/\w'.cell? ⟨gb,ob+i*15+8,none⟩=some v8/\w'.cell? ⟨gb,ob+i*15+9,none⟩=some v9/\w'.cell? ⟨gb,ob+i*15+10,none⟩=some v10/\w'.cell? ⟨gb,ob+i*15+11,none⟩=some v11/\w'.cell? ⟨gb,ob+i*15+12,none⟩=some v12/\w'.cell? ⟨gb,ob+i*15+13,none⟩=some v13/\w'.cell? ⟨gb,ob+i*15+14,none⟩=some v14) (go_keep)
     (first
      |(go_at_call 52;(with_reducible refine aJ.mono ?_);rintro e w2 ⟨rfl,aI⟩;have iq:=hd (cC aI);obtain ⟨e0,e1,e2,e3,e4,e5,e6,e7,e8,e9,II,IJ,L6,L7,L8,e15,e16,e17,e18,e19,e20,e21,e22,e23,e24,e25,e26,e27,e28,e29⟩:=HG.out w2 iq.out))
    all_goals (
     go_wp2_with fail;go_meet
     case rel=>exact ⟨rfl,hd (aj.out.trans (iq.out.mono aj.out.size))⟩)
   case rest=>
    obtain ⟨rfl,fS⟩:=hcut;clear HG f0 f1 f2 f3 f4 f5 f6 f7 f8 f9 f10 f11 f12 f13 f14 f15 f16 f17 f18 f19 f20 f21 f22 f23 f24 f25 f26 f27 f28 f29 aJ;go_wp2_with fail;go_roundg (gk-1)
    case rel=>exact ⟨i+1,by go_num,by omega,fS⟩
    case measure=>omega
  ·obtain rfl:i=n:=by omega
   go_wp2_with fail;go_ret;exact ⟨rfl,aj.out⟩
theorem alike_pars{xs:List (og)}(hA:b_ 6 pE w va xs)(hB:b_ 6 pE w vb xs):Calls prog 49 #[va,vb,.func (.func 50) #[] #[]] w fun e w'=>e=.returned (.bool true)/\Below w.heap.size w w':=
 alike_par hA hB (fun W hW ca cb x e1 e2=>by
  exact samePart_any e1 e2) (fun W cs x hb h=>h.below hb)
theorem alike_pros{xs:List (n_)}(hA:b_ 15 rE w va xs)(hB:b_ 15 rE w vb xs):Calls prog 51 #[va,vb,.func (.func 52) #[] #[]] w fun e w'=>e=.returned (.bool true)/\Below w.heap.size w w':=
 alike_pro hA hB (fun W hW ca cb x e1 e2=>by
  exact sameProcess_any e1 e2) (fun W cs x hb h=>h.below hb)
theorem same_any{x:tz}(h1:sE w ca x)(h2:sE w cb x):
 Calls prog 34 #[.agg ca.toArray,.agg cb.toArray] w fun e w'=>e=.returned (.bool true)/\Below w.heap.size w w':=by
 obtain ⟨pt,pp,pq⟩:=x;obtain ⟨u,v,e1,k1,k2⟩:=h1;simp only at e1 k1 k2;subst e1;obtain ⟨u2,v2,e2,m1,m2⟩:=h2;simp only at e2 m1 m2;subst e2;have wU:Hid (∀V,Below w.heap.size w V->Calls prog 49 #[u,u2,.func (.func 50) #[] #[]] V fun e w'=>e=.returned (.bool true)/\Below V.heap.size V w'):=hd fun V hb=>alike_pars (k1.below hb fun _ _ h=>h.below hb) (m1.below hb fun _ _ h=>h.below hb)
 have kZ:Hid (∀V,Below w.heap.size w V->Calls prog 51 #[v,v2,.func (.func 52) #[] #[]] V fun e w'=>e=.returned (.bool true)/\Below V.heap.size V w'):=hd fun V hb=>alike_pros (k2.below hb fun _ _ h=>h.below hb) (m2.below hb fun _ _ h=>h.below hb)
 clear k1 m1 k2 m2;go_enter func34,ntmps34;go_upto_region 1 with fail;obtain ⟨h1,h2⟩:=DV (w:=w) #[.int .i64 pt,u,v] #[.int .i64 pt,u2,v2] 78;obtain ⟨W0,aD⟩:=Haa ((w.alloc (.cells #[.int .i64 pt,u,v] 78)).alloc (.cells #[.int .i64 pt,u2,v2] 78));rw [aD.out]at h1 h2⊢;obtain ⟨B,hB⟩:=Haa w.heap.size;obtain ⟨B1,dM⟩:=Haa (B+1);rw [hB.out,dM.out]at h1;rw [hB.out,dM.out];have kD:=hd h2
 have HD:Hid (∀V,Below W0.heap.size W0 V->V.cell? ⟨B,0,none⟩=some (.int .i64 pt)/\V.cell? ⟨B,1,none⟩=some (u)/\V.cell? ⟨B,2,none⟩=some (v)/\V.cell? ⟨B1,0,none⟩=some (.int .i64 pt)/\V.cell? ⟨B1,1,none⟩=some (u2)/\V.cell? ⟨B1,2,none⟩=some (v2)):=hd (fun V hb=>by
  obtain ⟨e1,e2⟩:=h1 V hb
  exact ⟨cI e1 rfl,cI e1 rfl,cI e1 rfl,cI e2 rfl,cI e2 rfl,cI e2 rfl⟩)
 have HC:Hid (∀V,Below W0.heap.size W0 V->Below w.heap.size w V):=hd (fun V hb=>kD.out.trans (hb.mono kD.out.size));clear h1 h2 aD;obtain ⟨a0,a1,a2,b0,b1,b2⟩:=HD.out W0 (aak _ _);go_wp2_with (first|(go_at_call 49;(with_reducible refine (wU.out W0 (HC.out _ (aak W0.heap.size W0))).mono ?_);rintro e w1 ⟨rfl,Dp⟩;have oh:=hd ((aak W0.heap.size W0).trans (Dp.mono (aak W0.heap.size W0).size));obtain ⟨lV,lW,lX,j_,kM,IE⟩:=HD.out w1 oh.out)|(go_at_call 51;(with_reducible refine (kZ.out w1 (HC.out _ oh.out)).mono ?_);rintro e w2 ⟨rfl,IG⟩;have xI:=hd (oh.out.trans (IG.mono oh.out.size));obtain ⟨Zy,Zz,ZA,ZB,ZC,ZD⟩:=HD.out w2 xI.out));go_ret;exact ⟨rfl,HC.out _ xI.out⟩
end Go.Proofs.YthopnfbjiifhhaaGreatDoor.View
