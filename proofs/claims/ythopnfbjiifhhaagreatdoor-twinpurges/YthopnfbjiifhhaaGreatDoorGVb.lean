/- Flows, the program's and the document's. -/
import Derived.Test.YthopnfbjiifhhaaGreatDoorGVa
set_option maxHeartbeats 8000000
set_option maxRecDepth 100000
namespace Go.Proofs.YthopnfbjiifhhaaGreatDoor.View
open Go.RowKit Go.Proofs.Tryz
theorem TU(b i:Nat)(hb:b<18446744073709551616):(18446744073709551615-b).testBit i=(decide (i<64)&& !b.testBit i):=by
 have:=Nat.testBit_two_pow_sub_succ (n:=64) (x:=b) (by simpa using hb) i;rw [<-this];congr 1;omega
theorem VH(a i:Nat)(ha:a<18446744073709551616)(hi:64<=i):a.testBit i=false:=by
 apply Nat.testBit_lt_two_pow;exact aam (show a<2^64 by simpa using ha) (Nat.pow_le_pow_right (by decide) hi)
theorem flows_andNot(a b:Nat)(ha:a<18446744073709551616)(hb:b<18446744073709551616):
 ((a&&&(18446744073709551615-b))==0)=uM a b:=by
 rw [Bool.eq_iff_iff,MI,beq_iff_eq];constructor
 ·intro h i hi;have:=abb (fun x=>x.testBit i) h;simp only [Nat.testBit_and,hi,TU b i hb,Nat.zero_testBit,Bool.true_and]at this;by_cases h64:i<64
  ·simpa [h64]using this
  ·rw [VH a i ha (by omega)]at hi;cases hi
 ·intro h;apply Nat.eq_of_testBit_eq;intro i;rw [Nat.testBit_and,TU b i hb,Nat.zero_testBit]
  cases hi:a.testBit i
  ·rfl
  ·simp [h i hi]
theorem Vf(a b:Nat):(((a:Int)==(b:Int)):Bool)=(a==b):=by
 rw [Bool.eq_iff_iff];simp only [beq_iff_eq];omega
theorem lflows_any(a b:Nat)(ha:a<18446744073709551616)(hb:b<18446744073709551616)(w:World):
 Calls prog 44 #[.int .u64 a,.int .u64 b] w fun e w'=>e=.returned (.bool (uM a b))/\w'=w:=by
 go_enter func44,ntmps44
 go_wp2
 go_ret;refine ⟨DM ?_,rfl⟩;rw [u64_andNot_nat a b ha hb,<-flows_andNot a b ha hb];exact Vf _ 0
theorem Gb(a m:Nat)(b:Bool)(ha:a<18446744073709551616)(hm:m<64)(hb:a.testBit m=b)(w:World):
 Calls prog 59 #[.int .u64 a,.int .i64 m] w fun e w'=>e=.returned (.bool b)/\w'=w:=by
 rw [<-hb];clear hb;have h0:(0:Int)<=(m:Int):=by omega
 have h1:(m:Int)<=63:=by omega
 go_enter func59,ntmps59
 go_wp2
 go_ret;refine ⟨DM ?_,rfl⟩;have e2:(a:Int)/2^m=((a/2^m:Nat):Int):=by simp
 have h3:a/2^m<=a:=Nat.div_le_self _ _;have h4:=u64_and_nat (a/2^m) 1 (by omega) (by decide);rw [e2,show(1:Int)=((1:Nat):Int)from rfl,h4,Vf,Nat.testBit_eq_decide_div_mod_eq,Nat.and_one_is_mod];rcases Nat.mod_two_eq_zero_or_one (a/2^m)with h|h<;>simp [h]
theorem flows_all(a b:Nat)(ha:a<18446744073709551616)(h:∀i,i<64->a.testBit i=true->b.testBit i=true):uM a b=true:=by
 rw [MI];intro i hi;by_cases h64:i<64
 ·exact h i h64 hi
 ·rw [VH a i ha (by omega)]at hi;cases hi
theorem flows_not(a b i:Nat)(h1:a.testBit i=true)(h2:b.testBit i=false):uM a b=false:=by
 cases h:uM a b
 ·rfl
 ·rw [MI]at h;rw [h i h1]at h2
  cases h2
theorem rflows_any(a b:Nat)(ha:a<18446744073709551616)(_hb:b<18446744073709551616)(w:World):
 Calls prog 43 #[.int .u64 a,.int .u64 b] w fun e w'=>e=.returned (.bool (uM a b))/\w'=w:=by
 go_enter func43,ntmps43
 go_wp2
 go_loop [5] (fun i=>∃k:Nat,k<=64/\i=.int .i64 k/\Hid (∀i,i<k->a.testBit i=true->b.testBit i=true)) (fun i=>64-(intOf i).toNat)
 case atStart=>exact ⟨0,aaq _,rfl,fun i hi=>absurd hi (aao i)⟩
 case round=>
  obtain ⟨k,hk,rfl,aY⟩:=hrel;by_cases af:k<64
  ·cases h1:a.testBit k
   ·have H:Hid (∀i,i<k+1->a.testBit i=true->b.testBit i=true):=fun i hi hx=>by
     by_cases e:i=k
     ·subst e;rw [h1]at hx;cases hx
     ·exact aY i (by omega) hx
    go_wp2_with (go_at_call 59;refine (Gb a k false ha af h1 _).mono ?_;rintro e w' ⟨rfl,rfl⟩)
    go_round
    case rel=>exact ⟨k+1,by omega,by go_num,H⟩
    case measure=>simp [intOf];omega
   ·cases h2:b.testBit k
    ·have hf:=flows_not a b k h1 h2;go_wp2_with fail;refine (Gb a k true ha af h1 _).mono ?_;rintro e w' ⟨rfl,rfl⟩;go_wp2_with fail;refine (Gb b k false (by assumption) af h2 _).mono ?_;rintro e w' ⟨rfl,rfl⟩
     go_wp2
     go_ret;exact ⟨DM hf.symm,rfl⟩
    ·have H:Hid (∀i,i<k+1->a.testBit i=true->b.testBit i=true):=fun i hi hx=>by
      by_cases e:i=k
      ·subst e;exact h2
      ·exact aY i (by omega) hx
     go_wp2_with fail;refine (Gb a k true ha af h1 _).mono ?_;rintro e w' ⟨rfl,rfl⟩;go_wp2_with fail;refine (Gb b k true (by assumption) af h2 _).mono ?_;rintro e w' ⟨rfl,rfl⟩
     go_wp2
     go_round
     case rel=>exact ⟨k+1,by omega,by go_num,H⟩
     case measure=>simp [intOf];omega
  ·have hf:=flows_all a b ha (fun i hi=>aY i (by omega))
   go_wp2
   go_ret;exact ⟨rfl,rfl⟩
def uE(_:World)(cs:List Value)(x:Nat):Prop:=cs=[.int .u64 (x:Int)]/\x<18446744073709551616
def cE(_:World)(cs:List Value)(x:Int):Prop:=∃u,cs=[.int .i64 x,u]
def fE(w:World)(cs:List Value)(c:l_):Prop:=∃v0 v1 v2 v3 v4 v5 v6,cs=[v0,v1,v2,v3,v4,v5,v6]/\b_ 1 uE w v0 c.lb/\b_ 2 cE w v6 c.pp
variable{w:World}{sz:Nat}
theorem fE.below{w':World}{cs:List Value}{c:l_}(hb:Below w.heap.size w w')(h:fE w cs c):fE w' cs c:=by
 obtain ⟨v0,v1,v2,v3,v4,v5,v6,e,h1,h2⟩:=h;exact ⟨v0,v1,v2,v3,v4,v5,v6,e,h1.below hb fun _ _ h=>h,h2.below hb fun _ _ h=>h⟩
theorem Vg(x:Array Value)(T:TypeId):(∀V,Below (w.alloc (.cells x T)).heap.size (w.alloc (.cells x T)) V->V.heap[w.heap.size]?=some (.cells x T (0,0)))/\Below w.heap.size w (w.alloc (.cells x T)):=by
 have h1:=aae w (.cells x T);exact ⟨fun V hb=>(hb.block _ (aab.1 h1).1).trans h1,aA w _⟩
theorem aC{V:World}{B:Nat}{x:Array Value}{T:TypeId}(h:V.heap[B]?=some (.cells x T (0,0))){j:Nat}{u:Value}(hj:x[j]?=some u):V.cell? ⟨B,j,none⟩=some u:=by rw [aaa _ _ _ _ _ _ h];exact hj
theorem Ss{cs:List Value}{c:l_}(hc:fE w cs c)(i:Int)(a:Nat)(ha:a<18446744073709551616):Calls prog 31 #[.agg cs.toArray,.int .i64 i,.int .u64 (a:Int)] w fun e w'=>e=.returned (.bool (jC c a i))/\Below w.heap.size w w':=by
 obtain ⟨v0,v1,v2,v3,v4,v5,v6,rfl,h1,-⟩:=hc;obtain ⟨la,lc,rfl,hl,hh⟩:=h1.at' (by decide);unfold iD at hl;have HB:Hid (∀o,Below w.heap.size w (w.alloc o)):=hd (aA w);by_cases h0:0<=i
 case neg=>
  have e1:jC c a i=false:=by unfold jC;rw [aaC h0];rfl
  have d1:decide (0<=i)=false:=aaC h0;rw [e1];clear e1 hh h1 h0 hl;generalize c.lb.length=n at*
  go_enter func31,ntmps31;go_wp2_with fail;go_ret;exact ⟨rfl,HB.out _⟩
 by_cases h2:i<(c.lb.length:Int)
 case neg=>
  have e1:jC c a i=false:=by unfold jC;rw [aaC h2];simp
  have d1:decide (i<(c.lb.length:Int))=false:=aaC h2;rw [e1];clear e1 hh h1 h2;generalize c.lb.length=n at*
  go_enter func31,ntmps31;go_wp2_with fail;go_ret;exact ⟨rfl,HB.out _⟩
 obtain ⟨m,rfl⟩:=abp h0;have hm:m<c.lb.length:=by omega
 obtain ⟨g,o,RG,e2,-,⟨e3,e4⟩,hx⟩:=hh m hm;subst e2 e3;have e1:jC c a (m:Int)=uM (c.lb.getD m default) a:=by
  unfold jC;rw [abo h0,abo h2,aa7];rfl
 rw [e1];have HX:Hid (∀W,Below w.heap.size w W->W.cell? ⟨g,o+m,none⟩=some (.int .u64 ((c.lb.getD m default:Nat):Int))):=hd fun W hb=>by
  have:=hx W hb 0 _ rfl;simpa using this
 clear e1 hh h1 hx hm;generalize c.lb.getD m default=l at*
 generalize c.lb.length=n at*
 go_enter func31,ntmps31;go_upto_region 1 with fail;have x0:=HX.out _ (HB.out (.cells #[.slice (some ⟨g,o,none⟩) n lc,v1,v2,v3,v4,v5,v6] 26));go_wp2_with (go_at_call 44;refine (lflows_any l a e4 ha _).mono ?_;rintro e w1 ⟨rfl,rfl⟩);go_ret;exact ⟨rfl,HB.out _⟩
theorem rpart_any{cs:List Value}{c:l_}(hc:fE w cs c)(i:Int)(a:Nat)(ha:a<18446744073709551616):Calls prog 30 #[.agg cs.toArray,.int .i64 i,.int .u64 (a:Int)] w fun e w'=>e=.returned (.bool (jC c a i))/\Below w.heap.size w w':=by
 obtain ⟨v0,v1,v2,v3,v4,v5,v6,rfl,h1,-⟩:=hc;obtain ⟨la,lc,rfl,hl,hh⟩:=h1.at' (by decide);unfold iD at hl;have HB:Hid (∀o,Below w.heap.size w (w.alloc o)):=hd (aA w);by_cases h0:0<=i
 case neg=>
  have e1:jC c a i=false:=by unfold jC;rw [aaC h0];rfl
  have d1:decide (0<=i)=false:=aaC h0;rw [e1];clear e1 hh h1 h0 hl;generalize c.lb.length=n at*
  go_enter func30,ntmps30;go_wp2_with fail;go_ret;exact ⟨rfl,HB.out _⟩
 by_cases h2:i<(c.lb.length:Int)
 case neg=>
  have e1:jC c a i=false:=by unfold jC;rw [aaC h2];simp
  have d1:decide (i<(c.lb.length:Int))=false:=aaC h2;rw [e1];clear e1 hh h1 h2;generalize c.lb.length=n at*
  go_enter func30,ntmps30;go_wp2_with fail;go_ret;exact ⟨rfl,HB.out _⟩
 obtain ⟨m,rfl⟩:=abp h0;have hm:m<c.lb.length:=by omega
 obtain ⟨g,o,RG,e2,-,⟨e3,e4⟩,hx⟩:=hh m hm;subst e2 e3;have e1:jC c a (m:Int)=uM (c.lb.getD m default) a:=by
  unfold jC;rw [abo h0,abo h2,aa7];rfl
 rw [e1];have HX:Hid (∀W,Below w.heap.size w W->W.cell? ⟨g,o+m,none⟩=some (.int .u64 ((c.lb.getD m default:Nat):Int))):=hd fun W hb=>by
  have:=hx W hb 0 _ rfl;simpa using this
 clear e1 hh h1 hx hm;generalize c.lb.getD m default=l at*
 generalize c.lb.length=n at*
 go_enter func30,ntmps30;go_upto_region 1 with fail;have x0:=HX.out _ (HB.out (.cells #[.slice (some ⟨g,o,none⟩) n lc,v1,v2,v3,v4,v5,v6] 26));go_wp2_with (go_at_call 43;refine (rflows_any l a e4 ha _).mono ?_;rintro e w1 ⟨rfl,rfl⟩);go_ret;exact ⟨rfl,HB.out _⟩
theorem Nu{cs:List Value}{c:l_}(hc:fE w cs c)(i:Int)(a:Nat)(ha:a<18446744073709551616):Calls prog 17 #[.agg cs.toArray,.int .i64 i,.int .u64 (a:Int)] w fun e w'=>e=.returned (.bool (jD c a i))/\Below w.heap.size w w':=by
 have HC:=hd hc;obtain ⟨v0,v1,v2,v3,v4,v5,v6,rfl,-,h1⟩:=hc;obtain ⟨la,lc,rfl,hl,hh⟩:=h1.at' (by decide);unfold iD at hl;have HB:Hid (∀o,Below w.heap.size w (w.alloc o)):=hd (aA w);by_cases h0:0<=i
 case neg=>
  have e1:jD c a i=false:=by unfold jD;rw [aaC h0];rfl
  have d1:decide (0<=i)=false:=aaC h0;rw [e1];clear e1 hh h1 h0 hl HC;generalize c.pp.length=n at*
  go_enter func17,ntmps17;go_upto_region 1 with fail;go_quiet (fail)
  go_wp2_with fail;go_ret;exact ⟨rfl,(HB.out _).trans ((ck _ _).mono (HB.out _).size)⟩
 by_cases h2:i<(c.pp.length:Int)
 case neg=>
  have e1:jD c a i=false:=by unfold jD;rw [aaC h2];simp
  have d1:decide (i<(c.pp.length:Int))=false:=aaC h2;rw [e1];clear e1 hh h1 h2 HC;generalize c.pp.length=n at*
  go_enter func17,ntmps17;go_upto_region 1 with fail;go_quiet (fail)
  go_wp2_with fail;go_ret;exact ⟨rfl,(HB.out _).trans ((ck _ _).mono (HB.out _).size)⟩
 obtain ⟨m,rfl⟩:=abp h0;have hm:m<c.pp.length:=by omega
 obtain ⟨g,o,RG,e2,-,⟨u,e3⟩,hx⟩:=hh m hm;subst e2 e3;have e1:jD c a (m:Int)=jC c a (c.pp.getD m default):=by
  unfold jD;rw [abo h0,abo h2,aa7];rfl
 rw [e1];have HX:Hid (∀W,Below w.heap.size w W->W.cell? ⟨g,o+m*2,none⟩=some (.int .i64 (c.pp.getD m default))):=hd fun W hb=>hx W hb 0 _ rfl
 clear e1 hh h1 hx hm;generalize c.pp.getD m default=l at*
 have HP:Hid (∀W,Below w.heap.size w W->Calls prog 31 #[.agg #[v0,v1,v2,v3,v4,v5,.slice (some ⟨g,o,none⟩) c.pp.length lc],.int .i64 l,.int .u64 (a:Int)] W fun e w'=>e=.returned (.bool (jC c a l))/\Below W.heap.size W w'):=hd fun W hb=>Ss (HC.out.below hb) l a ha
 clear HC;generalize jC c a l=r at*
 generalize c.pp.length=n at*
 go_enter func17,ntmps17;go_upto_region 1 with fail;obtain ⟨W0,aD⟩:=Haa (w.alloc (.cells #[v0,v1,v2,v3,v4,v5,.slice (some ⟨g,o,none⟩) n lc] 26));have h1:=Vg (w:=w) #[v0,v1,v2,v3,v4,v5,.slice (some ⟨g,o,none⟩) n lc] 26;rw [aD.out]at h1⊢;obtain ⟨B,hB⟩:=Haa w.heap.size;rw [hB.out]at h1;rw [hB.out];obtain ⟨h1,h2⟩:=h1;rw [<-hB.out]at h2;have HG:Hid (∀W,Below W0.heap.size W0 W->W.cell? ⟨B,0,none⟩=some v0/\W.cell? ⟨B,1,none⟩=some v1/\W.cell? ⟨B,2,none⟩=some v2/\W.cell? ⟨B,3,none⟩=some v3/\W.cell? ⟨B,4,none⟩=some v4/\W.cell? ⟨B,5,none⟩=some v5/\W.cell? ⟨B,6,none⟩=some (.slice (some ⟨g,o,none⟩) n lc)/\W.cell? ⟨g,o+m*2,none⟩=some (.int .i64 l)):=hd (fun W hb=>⟨aC (h1 W hb) rfl,aC (h1 W hb) rfl,aC (h1 W hb) rfl,aC (h1 W hb) rfl,aC (h1 W hb) rfl,aC (h1 W hb) rfl,aC (h1 W hb) rfl,HX.out W (h2.trans (hb.mono h2.size))⟩);have H2:=hd h2;have aJ:=HP.out W0.drew (h2.trans ((fu W0).mono h2.size));obtain ⟨f0,f1,f2,f3,f4,f5,f6,f7⟩:=HG.out W0 (fk W0);clear h1 h2 aD HX HB;go_cut [6] (fun RH wy=>RH=.bool r/\Hid (Below w.heap.size w wy))
 case first=>
  go_region_held3 (fun w'=>w'.cell? ⟨B,0,none⟩=some v0/\w'.cell? ⟨B,1,none⟩=some v1/\w'.cell? ⟨B,2,none⟩=some v2/\w'.cell? ⟨B,3,none⟩=some v3/\w'.cell? ⟨B,4,none⟩=some v4/\w'.cell? ⟨B,5,none⟩=some v5/\w'.cell? ⟨B,6,none⟩=some (.slice (some ⟨g,o,none⟩) n lc)/\w'.cell? ⟨g,o+m*2,none⟩=some (.int .i64 l)) (go_keep)
   (first|(go_at_call 31;(with_reducible refine aJ.mono ?_);rintro e w2 ⟨rfl,aI⟩;have iq:=hd (cC aI);obtain ⟨e0,e1,e2,e3,e4,e5,e6,e7⟩:=HG.out w2 iq.out))
  all_goals (
   go_wp2_with fail;go_meet
   case rel=>exact ⟨rfl,hd (H2.out.trans (iq.out.mono H2.out.size))⟩)
 case rest=>
  obtain ⟨rfl,fS⟩:=hcut;go_wp2_with fail;go_ret;exact ⟨rfl,fS.out⟩
theorem rsees_any{cs:List Value}{c:l_}(hc:fE w cs c)(i:Int)(a:Nat)(ha:a<18446744073709551616):Calls prog 16 #[.agg cs.toArray,.int .i64 i,.int .u64 (a:Int)] w fun e w'=>e=.returned (.bool (jD c a i))/\Below w.heap.size w w':=by
 have HC:=hd hc;obtain ⟨v0,v1,v2,v3,v4,v5,v6,rfl,-,h1⟩:=hc;obtain ⟨la,lc,rfl,hl,hh⟩:=h1.at' (by decide);unfold iD at hl;have HB:Hid (∀o,Below w.heap.size w (w.alloc o)):=hd (aA w);by_cases h0:0<=i
 case neg=>
  have e1:jD c a i=false:=by unfold jD;rw [aaC h0];rfl
  have d1:decide (0<=i)=false:=aaC h0;rw [e1];clear e1 hh h1 h0 hl HC;generalize c.pp.length=n at*
  go_enter func16,ntmps16;go_upto_region 1 with fail;go_quiet (fail)
  go_wp2_with fail;go_ret;exact ⟨rfl,(HB.out _).trans ((ck _ _).mono (HB.out _).size)⟩
 by_cases h2:i<(c.pp.length:Int)
 case neg=>
  have e1:jD c a i=false:=by unfold jD;rw [aaC h2];simp
  have d1:decide (i<(c.pp.length:Int))=false:=aaC h2;rw [e1];clear e1 hh h1 h2 HC;generalize c.pp.length=n at*
  go_enter func16,ntmps16;go_upto_region 1 with fail;go_quiet (fail)
  go_wp2_with fail;go_ret;exact ⟨rfl,(HB.out _).trans ((ck _ _).mono (HB.out _).size)⟩
 obtain ⟨m,rfl⟩:=abp h0;have hm:m<c.pp.length:=by omega
 obtain ⟨g,o,RG,e2,-,⟨u,e3⟩,hx⟩:=hh m hm;subst e2 e3;have e1:jD c a (m:Int)=jC c a (c.pp.getD m default):=by
  unfold jD;rw [abo h0,abo h2,aa7];rfl
 rw [e1];have HX:Hid (∀W,Below w.heap.size w W->W.cell? ⟨g,o+m*2,none⟩=some (.int .i64 (c.pp.getD m default))):=hd fun W hb=>hx W hb 0 _ rfl
 clear e1 hh h1 hx hm;generalize c.pp.getD m default=l at*
 have HP:Hid (∀W,Below w.heap.size w W->Calls prog 30 #[.agg #[v0,v1,v2,v3,v4,v5,.slice (some ⟨g,o,none⟩) c.pp.length lc],.int .i64 l,.int .u64 (a:Int)] W fun e w'=>e=.returned (.bool (jC c a l))/\Below W.heap.size W w'):=hd fun W hb=>rpart_any (HC.out.below hb) l a ha
 clear HC;generalize jC c a l=r at*
 generalize c.pp.length=n at*
 go_enter func16,ntmps16;go_upto_region 1 with fail;obtain ⟨W0,aD⟩:=Haa (w.alloc (.cells #[v0,v1,v2,v3,v4,v5,.slice (some ⟨g,o,none⟩) n lc] 26));have h1:=Vg (w:=w) #[v0,v1,v2,v3,v4,v5,.slice (some ⟨g,o,none⟩) n lc] 26;rw [aD.out]at h1⊢;obtain ⟨B,hB⟩:=Haa w.heap.size;rw [hB.out]at h1;rw [hB.out];obtain ⟨h1,h2⟩:=h1;rw [<-hB.out]at h2;have HG:Hid (∀W,Below W0.heap.size W0 W->W.cell? ⟨B,0,none⟩=some v0/\W.cell? ⟨B,1,none⟩=some v1/\W.cell? ⟨B,2,none⟩=some v2/\W.cell? ⟨B,3,none⟩=some v3/\W.cell? ⟨B,4,none⟩=some v4/\W.cell? ⟨B,5,none⟩=some v5/\W.cell? ⟨B,6,none⟩=some (.slice (some ⟨g,o,none⟩) n lc)/\W.cell? ⟨g,o+m*2,none⟩=some (.int .i64 l)):=hd (fun W hb=>⟨aC (h1 W hb) rfl,aC (h1 W hb) rfl,aC (h1 W hb) rfl,aC (h1 W hb) rfl,aC (h1 W hb) rfl,aC (h1 W hb) rfl,aC (h1 W hb) rfl,HX.out W (h2.trans (hb.mono h2.size))⟩);have H2:=hd h2;have aJ:=HP.out W0.drew (h2.trans ((fu W0).mono h2.size));obtain ⟨f0,f1,f2,f3,f4,f5,f6,f7⟩:=HG.out W0 (fk W0);clear h1 h2 aD HX HB;go_cut [6] (fun RH wy=>RH=.bool r/\Hid (Below w.heap.size w wy))
 case first=>
  go_region_held3 (fun w'=>w'.cell? ⟨B,0,none⟩=some v0/\w'.cell? ⟨B,1,none⟩=some v1/\w'.cell? ⟨B,2,none⟩=some v2/\w'.cell? ⟨B,3,none⟩=some v3/\w'.cell? ⟨B,4,none⟩=some v4/\w'.cell? ⟨B,5,none⟩=some v5/\w'.cell? ⟨B,6,none⟩=some (.slice (some ⟨g,o,none⟩) n lc)/\w'.cell? ⟨g,o+m*2,none⟩=some (.int .i64 l)) (go_keep)
   (first|(go_at_call 30;(with_reducible refine aJ.mono ?_);rintro e w2 ⟨rfl,aI⟩;have iq:=hd (cC aI);obtain ⟨e0,e1,e2,e3,e4,e5,e6,e7⟩:=HG.out w2 iq.out))
  all_goals (
   go_wp2_with fail;go_meet
   case rel=>exact ⟨rfl,hd (H2.out.trans (iq.out.mono H2.out.size))⟩)
 case rest=>
  obtain ⟨rfl,fS⟩:=hcut;go_wp2_with fail;go_ret;exact ⟨rfl,fS.out⟩
def el(sz:Nat)(L:List Value)(i:Nat):List Value:=(L.drop (i*sz)).take sz
theorem Ou{L:List Value}{n i:Nat}(hl:L.length=n*sz)(hi:i<n):(el sz L i).length=sz:=by
 have:(i+1)*sz<=n*sz:=aaI _ hi;rw [abr]at this;simp [el];omega
theorem VI(L:List Value)(i:Nat)(hi:i<L.length):el 1 L i=[L.getD i undef]:=by
 unfold el;rw [Nat.mul_one,aac,aad hi,aa2 hi];rfl
theorem SH(sz:Nat)(L:List Value):∀n,((List.range n).map fun i=>el sz L i).flatten=L.take (n*sz)
 |0=>by simp
 |n+1=>by
  rw [abC,abd,List.flatten_append,SH sz L n];simp only [List.map_cons,List.map_nil,List.flatten_cons,List.flatten_nil,List.append_nil,el];rw [abr,List.take_add]
theorem Vh:∀(cs:List (List Value)),(∀i,i<cs.length->(cs.getD i []).length=sz)->∀i,i<cs.length->el sz cs.flatten i=cs.getD i []
 |[],_,i,hi=>absurd hi (aao i)
 |x::t,h,0,_=>by
  have h0:=h 0 (by simp);simp only [List.getD_cons_zero]at h0⊢;unfold el;rw [Nat.zero_mul,List.drop_zero,List.flatten_cons,aaS (by omega),aap (by omega)]
 |x::t,h,i+1,hi=>by
  have h0:=h 0 (by simp);simp only [List.getD_cons_zero]at h0;have ih:=Vh t (fun i hi=>by have:=h (i+1) (by simpa using hi);simpa using this) i (by simpa using hi);unfold el at ih⊢;rw [List.flatten_cons,List.drop_append,abc (by rw [h0,abr];omega),h0,show(i+1)*sz-sz=i*sz by rw [abr];omega,List.nil_append,ih];simp
def gQ{α:Type}[Inhabited α](T:TypeId)(sz:Nat)(E:Nat->Nat->World->List Value->α->Prop)(lo hi:Nat)(w:World)(v:Value)(xs:List α):Prop:=
 ∃(a:Option Addr) (c:Nat) (L:List Value) (b:Nat->Nat),v=.slice a xs.length c/\Row w T sz a xs.length c L/\(∀k,ae a=some k->lo<=k/\k<b 0)/\lo<=b 0/\(∀i,i<xs.length->b i<=b (i+1))/\b xs.length<=hi/\xs.length<=iD/\∀i,i<xs.length->E (b i) (b (i+1)) w (el sz L i) (xs.getD i default)
theorem pM{b:Nat->Nat}:∀(n:Nat),(∀i,i<n->b i<=b (i+1))->∀i,i<=n->b 0<=b i/\b i<=b n
 |0,_,i,hi=>by
  obtain rfl:i=0:=by omega
  exact ⟨aag _,aag _⟩
 |n+1,h,i,hi=>by
  have h1:=pM n (fun i hi=>h i (by omega));have h2:=h n (by omega);by_cases e:i<=n
  ·have:=h1 i e;exact ⟨this.1,by omega⟩
  ·obtain rfl:i=n+1:=by omega
   have:=h1 n (aag _);exact ⟨by omega,aag _⟩
section
variable{α:Type} [Inhabited α] {T:TypeId} {sz:Nat} {E:Nat->Nat->World->List Value->α->Prop} {lo hi:Nat} {w w':World} {v:Value} {xs:List α}
theorem gQ.kept(h:gQ T sz E lo hi w v xs)(hk:∀k,lo<=k->k<hi->w'.heap[k]?=w.heap[k]?)(hE:∀l u cs x,lo<=l->u<=hi->E l u w cs x->E l u w' cs x):gQ T sz E lo hi w' v xs:=by
 obtain ⟨a,c,L,b,h1,h2,h3,h4,h5,h6,h7,h8⟩:=h;have hm:=pM _ h5;refine ⟨a,c,L,b,h1,h2.kept fun k jk=> ?_,h3,h4,h5,h6,h7,fun i hi=>hE _ _ _ _ ?_ ?_ (h8 i hi)⟩
 ·have:=h3 k jk;have:=hm xs.length (aag _);exact hk k (by omega) (by omega)
 ·have:=hm i (by omega);omega
 ·have:=hm (i+1) (by omega);omega
theorem gQ.wide{Bj gj:Nat}(h:gQ T sz E lo hi w v xs)(h1:Bj<=lo)(h2:hi<=gj):gQ T sz E Bj gj w v xs:=by
 obtain ⟨a,c,L,b,e1,e2,e3,e4,e5,e6,e7,e8⟩:=h;exact ⟨a,c,L,b,e1,e2,fun k hk=>by have:=e3 k hk;omega,by omega,e5,by omega,e7,e8⟩
theorem gQ.rd{E':World->List Value->α->Prop}(h:gQ T sz E lo hi w v xs)(hE:∀l u cs x,E l u w cs x->E' w cs x):b_ sz E' w v xs:=by
 obtain ⟨a,c,L,b,h1,h2,h3,h4,h5,h6,h7,h8⟩:=h;refine ⟨a,c,(List.range xs.length).map fun i=>el sz L i,h1, ?_,by simp,h7,fun i hi=> ?_⟩
 ·rw [SH,aap (by rw [h2.len];exact aag _)];exact h2.rd
 ·have e:((List.range xs.length).map fun i=>el sz L i).getD i []=el sz L i:=by
   rw [aac,aaK,List.getElem?_range hi];rfl
  rw [e];exact ⟨Ou h2.len hi,hE _ _ _ _ (h8 i hi)⟩
theorem gQ.nil(h:lo<=hi):gQ T sz E lo hi w (.slice none 0 0) ([]:List α):=
 ⟨none,0,[],fun _=>hi,rfl,Row.nil,(fun k hk=>by cases hk),h,(fun i hi=>absurd hi (aao i)),aag _,aaq _,fun i hi=>absurd hi (aao i)⟩
end
variable{α:Type}{sz:Nat}{w:World}{v:Value}
theorem b_.cells[Inhabited α]{E:World->List Value->α->Prop}{xs:List α}(h:b_ sz E w v xs)(h1:∀cs x,E w cs x->∀u∈cs,u.oneCell'=true):
 ∃a c us,v=.slice a xs.length c/\Rd w a us/\us.length=xs.length*sz/\(∀u∈us,u.oneCell'=true)/\xs.length<=iD/\∀i,i<xs.length->E w (el sz us i) (xs.getD i default):=by
 obtain ⟨a,c,cs,e1,e2,e3,e4,e5⟩:=h;refine ⟨a,c,cs.flatten,e1,e2, ?_,fun u hu=> ?_,e4,fun i hi=> ?_⟩
 ·rw [M6 cs (fun i hi=>(e5 i (by omega)).1),e3]
 ·obtain ⟨l,hl,hu'⟩:=List.mem_flatten.1 hu;obtain ⟨i,hi,rfl⟩:=aaZ hl;have:=(e5 i (by omega)).2;rw [aac,aad hi]at this;exact h1 _ _ this u hu'
 ·rw [Vh cs (fun i hi=>(e5 i (by omega)).1) i (by omega)];exact (e5 i hi).2
theorem gQ.flat[Inhabited α]{T:TypeId}{E:World->List Value->α->Prop}(hE:∀w w' cs x,E w cs x->E w' cs x){w':World}{a:Option Addr}{c lo hi:Nat}{us:List Value}{xs:List α}(hR:Row w' T sz a xs.length c us)(hb:∀k,ae a=some k->lo<=k/\k<hi)(ZF:lo<=hi)(hl:xs.length<=iD)(he:∀i,i<xs.length->E w (el sz us i) (xs.getD i default)):
 gQ T sz (fun _ _=>E) lo hi w' (.slice a xs.length c) xs:=
 ⟨a,c,us,fun _=>hi,rfl,hR,hb,ZF,fun _ _=>aag _,aag _,hl,fun i hi=>hE _ _ _ _ (he i hi)⟩
theorem iE.one(w:World)(cs:List Value)(x:Int)(h:iE w cs x):∀u∈cs,u.oneCell'=true:=by
 rw [show cs=_ from h];simp [Value.oneCell']
theorem wE.one(w:World)(cs:List Value)(x:Int×Int)(h:wE w cs x):∀u∈cs,u.oneCell'=true:=by
 rw [show cs=_ from h];simp [Value.oneCell']
theorem eE.one(w:World)(cs:List Value)(x:Int×Int×Int)(h:eE w cs x):∀u∈cs,u.oneCell'=true:=by
 rw [show cs=_ from h];simp [Value.oneCell']
theorem b_.one[Inhabited α]{E:World->List Value->α->Prop}{xs:List α}(h:b_ sz E w v xs):v.oneCell'=true:=by
 obtain ⟨a,c,cs,rfl,-⟩:=h;rfl
theorem qE.one(w:World)(cs:List Value)(x:List Int)(h:qE w cs x):∀u∈cs,u.oneCell'=true:=by
 obtain ⟨v,rfl,h⟩:=h;have k1:=h.one;intro u hu;simp only [List.mem_cons,List.not_mem_nil,or_false]at hu;subst hu;exact k1
theorem lE.one(w:World)(cs:List Value)(x:mW)(h:lE w cs x):∀u∈cs,u.oneCell'=true:=by
 obtain ⟨v1,v2,rfl,h1,h2⟩:=h;have k1:=h1.one;have k2:=h2.one;intro u hu;simp only [List.mem_cons,List.not_mem_nil,or_false]at hu;rcases hu with rfl|rfl|rfl|rfl<;>first|assumption|rfl
def qO(lo hi:Nat)(w:World)(cs:List Value)(x:List Int):Prop:=∃v,cs=[v]/\gQ 3 1 (fun _ _=>iE) lo hi w v x
def lO(lo hi:Nat)(w:World)(cs:List Value)(x:mW):Prop:=∃v1 v2 m,cs=[v1,v2,.int .i64 x.tk,.int .i64 x.dr]/\lo<=m/\m<=hi/\gQ 2 1 (fun _ _=>iE) lo m w v1 x.vs/\gQ 187 2 (fun _ _=>wE) m hi w v2 x.ws
def pO(lo hi:Nat)(w:World)(cs:List Value)(x:og):Prop:=∃v1 v4 v5 m1 m2,cs=[.int .i64 x.cu,v1,.int .i64 x.lo,.int .i64 x.fo,v4,v5]/\lo<=m1/\m1<=m2/\m2<=hi/\gQ 138 3 (fun _ _=>eE) lo m1 w v1 x.lg/\gQ 3 1 (fun _ _=>iE) m1 m2 w v4 x.os/\gQ 23 1 qO m2 hi w v5 x.qs
def rO(lo hi:Nat)(w:World)(cs:List Value)(x:n_):Prop:=∃v,cs=[.int .i64 x.st,.int .i64 x.pc,.int .i64 x.r.r0,.int .i64 x.r.r1,.int .i64 x.r.r2,.int .i64 x.r.r3,.int .i64 x.r.r4,.int .i64 x.r.r5,.int .i64 x.r.r6,.int .i64 x.r.r7,.int .i64 x.cu,.int .i64 x.ti,.bool x.fi,.int .i64 x.wk,v]/\gQ 147 4 lO lo hi w v x.ls
section
variable{lo hi:Nat} {w w':World} {cs:List Value} (hk:∀k,lo<=k->k<hi->w'.heap[k]?=w.heap[k]?)
include hk
theorem qO.kept{x:List Int}(h:qO lo hi w cs x):qO lo hi w' cs x:=by
 obtain ⟨v,e,h⟩:=h;exact ⟨v,e,h.kept hk fun _ _ _ _ _ _ h=>h⟩
theorem lO.kept{x:mW}(h:lO lo hi w cs x):lO lo hi w' cs x:=by
 obtain ⟨v1,v2,m,e,di,cO,h1,h2⟩:=h;exact ⟨v1,v2,m,e,di,cO,h1.kept (fun k k1 k2=>hk k k1 (by omega)) fun _ _ _ _ _ _ h=>h,h2.kept (fun k k1 k2=>hk k (by omega) k2) fun _ _ _ _ _ _ h=>h⟩
theorem pO.kept{x:og}(h:pO lo hi w cs x):pO lo hi w' cs x:=by
 obtain ⟨v1,v4,v5,m1,m2,e,di,cO,mr,h1,h2,h3⟩:=h;exact ⟨v1,v4,v5,m1,m2,e,di,cO,mr,h1.kept (fun k k1 k2=>hk k k1 (by omega)) fun _ _ _ _ _ _ h=>h,h2.kept (fun k k1 k2=>hk k (by omega) (by omega)) fun _ _ _ _ _ _ h=>h,h3.kept (fun k k1 k2=>hk k (by omega) k2) fun _ _ _ _ l1 l2 h=>h.kept fun k k1 k2=>hk k (by omega) (by omega)⟩
theorem rO.kept{x:n_}(h:rO lo hi w cs x):rO lo hi w' cs x:=by
 obtain ⟨v,e,h⟩:=h;exact ⟨v,e,h.kept hk fun _ _ _ _ l1 l2 h=>h.kept fun k k1 k2=>hk k (by omega) (by omega)⟩
end
section
variable{lo hi:Nat} {w:World} {cs:List Value}
theorem qO.rd{x:List Int}(h:qO lo hi w cs x):qE w cs x:=by
 obtain ⟨v,e,h⟩:=h;exact ⟨v,e,h.rd fun _ _ _ _ h=>h⟩
theorem lO.rd{x:mW}(h:lO lo hi w cs x):lE w cs x:=by
 obtain ⟨v1,v2,m,e,-,-,h1,h2⟩:=h;exact ⟨v1,v2,e,h1.rd fun _ _ _ _ h=>h,h2.rd fun _ _ _ _ h=>h⟩
theorem pO.rd{x:og}(h:pO lo hi w cs x):pE w cs x:=by
 obtain ⟨v1,v4,v5,m1,m2,e,-,-,-,h1,h2,h3⟩:=h;exact ⟨v1,v4,v5,e,h1.rd fun _ _ _ _ h=>h,h2.rd fun _ _ _ _ h=>h,h3.rd fun _ _ _ _ h=>h.rd⟩
theorem rO.rd{x:n_}(h:rO lo hi w cs x):rE w cs x:=by
 obtain ⟨v,e,h⟩:=h;exact ⟨v,e,h.rd fun _ _ _ _ h=>h.rd⟩
end
variable{w V w':World}{B j A:Nat}{x:Array Value}{T:TypeId}{v y0 y1 y2 y3 y4 y5:Value}
theorem jU{e:TypeId}{size n cap:Nat}{a:Option Addr}{xs:List Value}(h:Row w e size a n cap xs)(j:Nat)(hj:j<n*size)(v:Value):
 ∃g,a=some ⟨g,0,none⟩/\Row (w.setCell ⟨g,j,none⟩ v) e size a n cap (xs.set j v)/\(∃u,w.cell? ⟨g,j,none⟩=some u)/\w.frozen? ⟨g,j,none⟩=false:=by
 obtain ⟨h1,h2,h3,⟨h4,h5⟩|⟨g,cur,h4,hg,hs,ht⟩⟩:=h
 ·exfalso;have:n=0:=by omega
  rw [this,Nat.zero_mul]at hj;omega
 ·have RI:j<cur.size:=by
   have:n*size<=cap*size:=aaI _ h2;omega
  refine ⟨g,h4,⟨by rw [aaz];exact h1,h2,h3,.inr ⟨g,cur.setIfInBounds j v,h4,aax w g j _ _ v hg,by simpa using hs, ?_⟩⟩,⟨cur[j], ?_⟩,by simp [World.frozen?,hg]⟩
  ·rw [Array.toList_setIfInBounds,List.take_set,ht]
  ·rw [aaa _ _ _ _ _ _ hg,Array.getElem?_eq_getElem RI]
theorem kN(w:World)(g j:Nat)(v:Value)(k:Nat)(h:k≠g):(w.setCell ⟨g,j,none⟩ v).heap[k]?=w.heap[k]?:=aay _ _ _ _ h
theorem rP(w:World)(p:Addr)(v:Value):(w.setCell p v).heap.size=w.heap.size:=by simp [World.setCell]
theorem ja(h:V.heap[B]?=some (.cells x T (0,0)))(j:Nat)(v:Value):(V.setCell ⟨B,j,none⟩ v).heap[B]?=some (.cells (x.setIfInBounds j v) T (0,0)):=aax V B j _ _ v h
theorem BR(h:V.heap[B]?=some (.cells x T (0,0)))(j:Nat):V.frozen? ⟨B,j,none⟩=false:=by simp [World.frozen?,h]
theorem dx(h:Below B w w'){g:Nat}(hg:B<=g):Below B w (w'.setCell ⟨g,j,none⟩ v):=
 h.trans ⟨rfl,rfl,rfl,by simp [World.setCell],fun k hk=>kN _ _ _ _ _ (by omega)⟩
theorem set3(h:w.heap[B]?=some (.cells #[y0,y1,y2] T (0,0)))(v0 v1 v2:Value):(((w.setCell ⟨B,0,none⟩ v0).setCell ⟨B,1,none⟩ v1).setCell ⟨B,2,none⟩ v2).heap[B]?=some (.cells #[v0,v1,v2] T (0,0))/\(((w.setCell ⟨B,0,none⟩ v0).setCell ⟨B,1,none⟩ v1).setCell ⟨B,2,none⟩ v2).heap.size=w.heap.size/\∀k,k≠B->(((w.setCell ⟨B,0,none⟩ v0).setCell ⟨B,1,none⟩ v1).setCell ⟨B,2,none⟩ v2).heap[k]?=w.heap[k]?:=by
 have e0:(#[y0,y1,y2]:Array Value).setIfInBounds 0 v0=#[v0,y1,y2]:=by simp
 have h0:=ja h 0 v0;rw [e0]at h0;have e1:(#[v0,y1,y2]:Array Value).setIfInBounds 1 v1=#[v0,v1,y2]:=by simp
 have h1:=ja h0 1 v1;rw [e1]at h1;have e2:(#[v0,v1,y2]:Array Value).setIfInBounds 2 v2=#[v0,v1,v2]:=by simp
 have h2:=ja h1 2 v2;rw [e2]at h2;exact ⟨h2,by simp only [rP],fun k hk=>by simp only [kN _ _ _ _ _ hk]⟩
theorem set3_below(h:Below A w w')(hB:A<=B)(v0 v1 v2:Value):Below A w (((w'.setCell ⟨B,0,none⟩ v0).setCell ⟨B,1,none⟩ v1).setCell ⟨B,2,none⟩ v2):=(dx (dx (dx h hB) hB) hB)
theorem set6(h:w.heap[B]?=some (.cells #[y0,y1,y2,y3,y4,y5] T (0,0)))(v0 v1 v2 v3 v4 v5:Value):((((((w.setCell ⟨B,0,none⟩ v0).setCell ⟨B,1,none⟩ v1).setCell ⟨B,2,none⟩ v2).setCell ⟨B,3,none⟩ v3).setCell ⟨B,4,none⟩ v4).setCell ⟨B,5,none⟩ v5).heap[B]?=some (.cells #[v0,v1,v2,v3,v4,v5] T (0,0))/\((((((w.setCell ⟨B,0,none⟩ v0).setCell ⟨B,1,none⟩ v1).setCell ⟨B,2,none⟩ v2).setCell ⟨B,3,none⟩ v3).setCell ⟨B,4,none⟩ v4).setCell ⟨B,5,none⟩ v5).heap.size=w.heap.size/\∀k,k≠B->((((((w.setCell ⟨B,0,none⟩ v0).setCell ⟨B,1,none⟩ v1).setCell ⟨B,2,none⟩ v2).setCell ⟨B,3,none⟩ v3).setCell ⟨B,4,none⟩ v4).setCell ⟨B,5,none⟩ v5).heap[k]?=w.heap[k]?:=by
 have e0:(#[y0,y1,y2,y3,y4,y5]:Array Value).setIfInBounds 0 v0=#[v0,y1,y2,y3,y4,y5]:=by simp
 have h0:=ja h 0 v0;rw [e0]at h0;have e1:(#[v0,y1,y2,y3,y4,y5]:Array Value).setIfInBounds 1 v1=#[v0,v1,y2,y3,y4,y5]:=by simp
 have h1:=ja h0 1 v1;rw [e1]at h1;have e2:(#[v0,v1,y2,y3,y4,y5]:Array Value).setIfInBounds 2 v2=#[v0,v1,v2,y3,y4,y5]:=by simp
 have h2:=ja h1 2 v2;rw [e2]at h2;have e3:(#[v0,v1,v2,y3,y4,y5]:Array Value).setIfInBounds 3 v3=#[v0,v1,v2,v3,y4,y5]:=by simp
 have h3:=ja h2 3 v3;rw [e3]at h3;have e4:(#[v0,v1,v2,v3,y4,y5]:Array Value).setIfInBounds 4 v4=#[v0,v1,v2,v3,v4,y5]:=by simp
 have h4:=ja h3 4 v4;rw [e4]at h4;have e5:(#[v0,v1,v2,v3,v4,y5]:Array Value).setIfInBounds 5 v5=#[v0,v1,v2,v3,v4,v5]:=by simp
 have h5:=ja h4 5 v5;rw [e5]at h5;exact ⟨h5,by simp only [rP],fun k hk=>by simp only [kN _ _ _ _ _ hk]⟩
theorem set6_below(h:Below A w w')(hB:A<=B)(v0 v1 v2 v3 v4 v5:Value):Below A w ((((((w'.setCell ⟨B,0,none⟩ v0).setCell ⟨B,1,none⟩ v1).setCell ⟨B,2,none⟩ v2).setCell ⟨B,3,none⟩ v3).setCell ⟨B,4,none⟩ v4).setCell ⟨B,5,none⟩ v5):=(dx (dx (dx (dx (dx (dx h hB) hB) hB) hB) hB) hB)
theorem set15{y6 y7 y8 y9 jR jB iW iB gN:Value}(h:w.heap[B]?=some (.cells #[y0,y1,y2,y3,y4,y5,y6,y7,y8,y9,jR,jB,iW,iB,gN] T (0,0)))(v0 v1 v2 v3 v4 v5 v6 v7 v8 v9 v10 v11 v12 v13 v14:Value):(((((((((((((((w.setCell ⟨B,0,none⟩ v0).setCell ⟨B,1,none⟩ v1).setCell ⟨B,2,none⟩ v2).setCell ⟨B,3,none⟩ v3).setCell ⟨B,4,none⟩ v4).setCell ⟨B,5,none⟩ v5).setCell ⟨B,6,none⟩ v6).setCell ⟨B,7,none⟩ v7).setCell ⟨B,8,none⟩ v8).setCell ⟨B,9,none⟩ v9).setCell ⟨B,10,none⟩ v10).setCell ⟨B,11,none⟩ v11).setCell ⟨B,12,none⟩ v12).setCell ⟨B,13,none⟩ v13).setCell ⟨B,14,none⟩ v14).heap[B]?=some (.cells #[v0,v1,v2,v3,v4,v5,v6,v7,v8,v9,v10,v11,v12,v13,v14] T (0,0))/\(((((((((((((((w.setCell ⟨B,0,none⟩ v0).setCell ⟨B,1,none⟩ v1).setCell ⟨B,2,none⟩ v2).setCell ⟨B,3,none⟩ v3).setCell ⟨B,4,none⟩ v4).setCell ⟨B,5,none⟩ v5).setCell ⟨B,6,none⟩ v6).setCell ⟨B,7,none⟩ v7).setCell ⟨B,8,none⟩ v8).setCell ⟨B,9,none⟩ v9).setCell ⟨B,10,none⟩ v10).setCell ⟨B,11,none⟩ v11).setCell ⟨B,12,none⟩ v12).setCell ⟨B,13,none⟩ v13).setCell ⟨B,14,none⟩ v14).heap.size=w.heap.size/\∀k,k≠B->(((((((((((((((w.setCell ⟨B,0,none⟩ v0).setCell ⟨B,1,none⟩ v1).setCell ⟨B,2,none⟩ v2).setCell ⟨B,3,none⟩ v3).setCell ⟨B,4,none⟩ v4).setCell ⟨B,5,none⟩ v5).setCell ⟨B,6,none⟩ v6).setCell ⟨B,7,none⟩ v7).setCell ⟨B,8,none⟩ v8).setCell ⟨B,9,none⟩ v9).setCell ⟨B,10,none⟩ v10).setCell ⟨B,11,none⟩ v11).setCell ⟨B,12,none⟩ v12).setCell ⟨B,13,none⟩ v13).setCell ⟨B,14,none⟩ v14).heap[k]?=w.heap[k]?:=by
 have e0:(#[y0,y1,y2,y3,y4,y5,y6,y7,y8,y9,jR,jB,iW,iB,gN]:Array Value).setIfInBounds 0 v0=#[v0,y1,y2,y3,y4,y5,y6,y7,y8,y9,jR,jB,iW,iB,gN]:=by simp
 have h0:=ja h 0 v0;rw [e0]at h0;have e1:(#[v0,y1,y2,y3,y4,y5,y6,y7,y8,y9,jR,jB,iW,iB,gN]:Array Value).setIfInBounds 1 v1=#[v0,v1,y2,y3,y4,y5,y6,y7,y8,y9,jR,jB,iW,iB,gN]:=by simp
 have h1:=ja h0 1 v1;rw [e1]at h1;have e2:(#[v0,v1,y2,y3,y4,y5,y6,y7,y8,y9,jR,jB,iW,iB,gN]:Array Value).setIfInBounds 2 v2=#[v0,v1,v2,y3,y4,y5,y6,y7,y8,y9,jR,jB,iW,iB,gN]:=by simp
 have h2:=ja h1 2 v2;rw [e2]at h2;have e3:(#[v0,v1,v2,y3,y4,y5,y6,y7,y8,y9,jR,jB,iW,iB,gN]:Array Value).setIfInBounds 3 v3=#[v0,v1,v2,v3,y4,y5,y6,y7,y8,y9,jR,jB,iW,iB,gN]:=by simp
 have h3:=ja h2 3 v3;rw [e3]at h3;have e4:(#[v0,v1,v2,v3,y4,y5,y6,y7,y8,y9,jR,jB,iW,iB,gN]:Array Value).setIfInBounds 4 v4=#[v0,v1,v2,v3,v4,y5,y6,y7,y8,y9,jR,jB,iW,iB,gN]:=by simp
 have h4:=ja h3 4 v4;rw [e4]at h4;have e5:(#[v0,v1,v2,v3,v4,y5,y6,y7,y8,y9,jR,jB,iW,iB,gN]:Array Value).setIfInBounds 5 v5=#[v0,v1,v2,v3,v4,v5,y6,y7,y8,y9,jR,jB,iW,iB,gN]:=by simp
 have h5:=ja h4 5 v5;rw [e5]at h5;have e6:(#[v0,v1,v2,v3,v4,v5,y6,y7,y8,y9,jR,jB,iW,iB,gN]:Array Value).setIfInBounds 6 v6=#[v0,v1,v2,v3,v4,v5,v6,y7,y8,y9,jR,jB,iW,iB,gN]:=by simp
 have h6:=ja h5 6 v6;rw [e6]at h6;have e7:(#[v0,v1,v2,v3,v4,v5,v6,y7,y8,y9,jR,jB,iW,iB,gN]:Array Value).setIfInBounds 7 v7=#[v0,v1,v2,v3,v4,v5,v6,v7,y8,y9,jR,jB,iW,iB,gN]:=by simp
 have h7:=ja h6 7 v7;rw [e7]at h7;have e8:(#[v0,v1,v2,v3,v4,v5,v6,v7,y8,y9,jR,jB,iW,iB,gN]:Array Value).setIfInBounds 8 v8=#[v0,v1,v2,v3,v4,v5,v6,v7,v8,y9,jR,jB,iW,iB,gN]:=by simp
 have h8:=ja h7 8 v8;rw [e8]at h8;have e9:(#[v0,v1,v2,v3,v4,v5,v6,v7,v8,y9,jR,jB,iW,iB,gN]:Array Value).setIfInBounds 9 v9=#[v0,v1,v2,v3,v4,v5,v6,v7,v8,v9,jR,jB,iW,iB,gN]:=by simp
 have h9:=ja h8 9 v9;rw [e9]at h9;have II:(#[v0,v1,v2,v3,v4,v5,v6,v7,v8,v9,jR,jB,iW,iB,gN]:Array Value).setIfInBounds 10 v10=#[v0,v1,v2,v3,v4,v5,v6,v7,v8,v9,v10,jB,iW,iB,gN]:=by simp
 have h10:=ja h9 10 v10;rw [II]at h10;have IJ:(#[v0,v1,v2,v3,v4,v5,v6,v7,v8,v9,v10,jB,iW,iB,gN]:Array Value).setIfInBounds 11 v11=#[v0,v1,v2,v3,v4,v5,v6,v7,v8,v9,v10,v11,iW,iB,gN]:=by simp
 have h11:=ja h10 11 v11;rw [IJ]at h11;have L6:(#[v0,v1,v2,v3,v4,v5,v6,v7,v8,v9,v10,v11,iW,iB,gN]:Array Value).setIfInBounds 12 v12=#[v0,v1,v2,v3,v4,v5,v6,v7,v8,v9,v10,v11,v12,iB,gN]:=by simp
 have h12:=ja h11 12 v12;rw [L6]at h12;have L7:(#[v0,v1,v2,v3,v4,v5,v6,v7,v8,v9,v10,v11,v12,iB,gN]:Array Value).setIfInBounds 13 v13=#[v0,v1,v2,v3,v4,v5,v6,v7,v8,v9,v10,v11,v12,v13,gN]:=by simp
 have h13:=ja h12 13 v13;rw [L7]at h13;have L8:(#[v0,v1,v2,v3,v4,v5,v6,v7,v8,v9,v10,v11,v12,v13,gN]:Array Value).setIfInBounds 14 v14=#[v0,v1,v2,v3,v4,v5,v6,v7,v8,v9,v10,v11,v12,v13,v14]:=by simp
 have h14:=ja h13 14 v14;rw [L8]at h14;exact ⟨h14,by simp only [rP],fun k hk=>by simp only [kN _ _ _ _ _ hk]⟩
theorem set15_below(h:Below A w w')(hB:A<=B)(v0 v1 v2 v3 v4 v5 v6 v7 v8 v9 v10 v11 v12 v13 v14:Value):Below A w (((((((((((((((w'.setCell ⟨B,0,none⟩ v0).setCell ⟨B,1,none⟩ v1).setCell ⟨B,2,none⟩ v2).setCell ⟨B,3,none⟩ v3).setCell ⟨B,4,none⟩ v4).setCell ⟨B,5,none⟩ v5).setCell ⟨B,6,none⟩ v6).setCell ⟨B,7,none⟩ v7).setCell ⟨B,8,none⟩ v8).setCell ⟨B,9,none⟩ v9).setCell ⟨B,10,none⟩ v10).setCell ⟨B,11,none⟩ v11).setCell ⟨B,12,none⟩ v12).setCell ⟨B,13,none⟩ v13).setCell ⟨B,14,none⟩ v14):=(dx (dx (dx (dx (dx (dx (dx (dx (dx (dx (dx (dx (dx (dx (dx h hB) hB) hB) hB) hB) hB) hB) hB) hB) hB) hB) hB) hB) hB) hB)
structure PI(W3:World)(a:Option Addr)(n c:Nat)(us:List Value)(qs:List (List Int))(i:Nat)(wr:World):Prop where
 ex:∃(L:List Value) (b:Nat->Nat),Row wr 23 1 a n c L/\b 0=W3.heap.size/\b i=wr.heap.size/\(∀j,j<i->b j<=b (j+1))/\(∀j,j<i->qO (b j) (b (j+1)) wr [L.getD j undef] (qs.getD j default))/\(∀j,i<=j->j<n->L.getD j undef=us.getD j undef)
 md:Mod (fun k=>ae a=some k) W3 wr
 lt:∀k,ae a=some k->k<W3.heap.size
theorem Nv{L:List Value}{i:Nat}(hi:i<L.length):(L.set i v).getD j undef=if j=i then v else L.getD j undef:=by
 rw [aac,aaP,aac];by_cases h:i=j
 ·subst h;simp [hi]
 ·rw [aaf h,aaf (fun e=>h e.symm)]
section
variable{W3 wr w1:World} {a:Option Addr} {n c i m:Nat} {us xJ:List Value} {qs:List (List Int)} {v:Value}
theorem PI.step(h:PI W3 a n c us qs i wr)(hi:i<n)(hc:jd wr.drew 3 1 m xJ (.returned v) w1)(hm:m=(qs.getD i default).length)(hb:m<=iD)(he:∀j,j<m->iE w1 (el 1 xJ j) ((qs.getD i default).getD j default)):
 ∃g,a=some ⟨g,0,none⟩/\PI W3 a n c us qs (i+1) (w1.setCell ⟨g,i,none⟩ v)/\(∃u,w1.cell? ⟨g,i,none⟩=some u)/\w1.frozen? ⟨g,i,none⟩=false/\g<W3.heap.size:=by
 obtain ⟨⟨L,b,r1,r2,r3,r4,r5,r6⟩,kX,af⟩:=h;obtain ⟨a',c',e1,k1,k2,k3⟩:=hc
 cases e1
 have aj:=cC k3;have Ff:=r1.below aj;obtain ⟨g,rfl,q1,q2,q3⟩:=jU Ff i (by omega) (.slice a' m c');have hg:=af g rfl;have cD:W3.heap.size<=wr.heap.size:=kX.size;have tO:wr.heap.size<=w1.heap.size:=aj.size;have hL:i<L.length:=by rw [r1.len];omega
 have rD:wr.drew.heap.size=wr.heap.size:=rfl;have jy:=pM i r4;refine ⟨g,rfl,⟨⟨L.set i (.slice a' m c'),fun j=>if j<=i then b j else w1.heap.size,q1,by simpa using r2,by show(if i+1<=i then b (i+1)else w1.heap.size)=_;rw [aaf (by omega),rP],fun j hj=> ?_,fun j hj=> ?_,fun j hj uo=> ?_⟩, ?_,af⟩,q2,q3,hg⟩
 ·by_cases e:j=i
  ·subst e;simp only [Nat.le_refl,if_true];rw [aaf (by omega),r3];exact tO
  ·have h1:j<=i:=by omega
   have h2:j+1<=i:=by omega
   simp only [h1,h2,if_true];exact r4 j (by omega)
 ·by_cases e:j=i
  ·subst e;simp only [Nat.le_refl,if_true];rw [aaf (by omega),Nv hL,aah rfl,r3];refine ⟨_,rfl, ?_⟩;rw [hm];refine gQ.flat (fun _ _ _ _ h=>h) (w:=w1) (us:=xJ) ?_ (fun k hk=> ?_) tO (by omega) (fun x hx=>he x (by omega))
   ·rw [<-hm];exact k1.kept fun k hk=>kN _ _ _ _ _ (by rw [k2 k hk,rD];omega)
   ·have h1:=k1.lt k hk;have h2:=k2 k hk;rw [rD]at h2;omega
  ·have h1:j<=i:=by omega
   have h2:j+1<=i:=by omega
   simp only [h1,h2,if_true];rw [Nv hL,aaf e];have qn:=jy j h1;have sG:=jy (j+1) h2;refine (r5 j (by omega)).kept fun k l1 l2=> ?_
   rw [kN _ _ _ _ _ (by omega),aj.block k (by omega)]
 ·rw [Nv hL,aaf (by omega)];exact r6 j (by omega) uo
 ·exact Mod.setCell (p:=⟨g,i,none⟩) (kX.after aj) (.inl rfl) _
end
def OW(x:og):Prop:=x.lg.length<=1048576/\x.os.length<=1048576/\x.qs.length<=1048576/\∀j,(x.qs.getD j default).length<=1048576
def Wx(w:World)(x:og)(e:Ending)(w':World):Prop:=∃cs,e=.returned (.agg cs.toArray)/\pO w.heap.size w'.heap.size w' cs x/\Below w.heap.size w w'
theorem copiedPart_any{w:World}{cs:List Value}{x:og}(hx:pE w cs x)(hf:OW x):Calls prog 72 #[.agg cs.toArray] w (Wx w x):=by
 obtain ⟨p0,pl,p2,p3,po,pq⟩:=x;obtain ⟨u,v,z,e1,k1,k2,k3⟩:=hx;obtain ⟨f1,f2,f3,f4⟩:=hf;simp only at e1 k1 k2 k3 f1 f2 f3 f4;subst e1;obtain ⟨la,lc,lu,rfl,lr,ll,l1,lB,IK⟩:=k1.cells (eE.one w);obtain ⟨oa,oc,ou,rfl,or',ol,o1,oB,oE⟩:=k2.cells (iE.one w);obtain ⟨qa,qc,qu,rfl,qr,ql,q1,qB,ZG⟩:=k3.cells (qE.one w);obtain ⟨Q,hQ⟩:=Haa (Wx w ⟨p0,pl,p2,p3,po,pq⟩);rw [hQ.out];have IL:=hd lr;have HOr:=hd or';have HQr:=hd qr;have Bk:=hd ll;have RJ:=hd ol;have L9:=hd ql;have kZ:=hd l1;have K0:=hd o1;have ZH:=hd q1;have mO:=hd IK;have RK:=hd oE;have RL:=hd ZG;have AB:=hd f4;clear lr or' qr ll ol ql l1 o1 q1 IK oE ZG f4 k1 k2 k3;obtain ⟨nl,gY⟩:=Haa pl.length;obtain ⟨no,gM⟩:=Haa po.length;obtain ⟨nq,dV⟩:=Haa pq.length;rw [gY.out]at Bk mO f1 lB⊢;rw [gM.out]at RJ RK f2 oB⊢;rw [dV.out]at L9 RL f3 qB⊢;have F1:=hd f1;have F2:=hd f2;clear f1 f2 lB oB qB;go_enter func72,ntmps72;go_upto_region 1 with fail;obtain ⟨W0,aD⟩:=Haa ((w.alloc (.cells #[.int .i64 p0,.slice la nl lc,.int .i64 p2,.int .i64 p3,.slice oa no oc,.slice qa nq qc] 109)).alloc (.cells #[.int .i64 0,.slice none 0 0,.int .i64 0,.int .i64 0,.slice none 0 0,.slice none 0 0] 109));obtain ⟨h1,h2⟩:=DV (w:=w) #[.int .i64 p0,.slice la nl lc,.int .i64 p2,.int .i64 p3,.slice oa no oc,.slice qa nq qc] #[.int .i64 0,.slice none 0 0,.int .i64 0,.int .i64 0,.slice none 0 0,.slice none 0 0] 109;have bu:((w.alloc (.cells #[.int .i64 p0,.slice la nl lc,.int .i64 p2,.int .i64 p3,.slice oa no oc,.slice qa nq qc] 109)).alloc (.cells #[.int .i64 0,.slice none 0 0,.int .i64 0,.int .i64 0,.slice none 0 0,.slice none 0 0] 109)).heap.size=w.heap.size+2:=by simp
 rw [aD.out]at h1 h2 bu⊢;obtain ⟨B,hB⟩:=Haa w.heap.size;rw [hB.out]at h1 bu⊢;have S0:=hd bu;have rL:=hd h2;have aT:=h1 W0 (fk _);have zu:=hd aT.1;have IM:=hd aT.2;clear h1 h2 aD bu aT;have c1:=copied_ent (c:=lc) (IL.out.below rL.out) Bk.out kZ.out F1.out;have x1:=aC zu.out (j:=1) rfl;simp at x1;go_upto_region 2 with(go_at_call 99;(with_reducible refine c1.mono ?_);rintro e w1 ⟨a1,d1,rfl,r1,n1,b1⟩;have R1:=hd r1;have N1:=hd n1;have zw:=hd b1;have zx:=hd ((b1.block B (aab.1 zu.out).1).trans zu.out);have y1:=aC zx.out (j:=1) rfl;have y2:=BR zx.out 1;clear r1 n1 b1;simp at y1);obtain ⟨W1,bS⟩:=Haa (w1.setCell ⟨B,1,none⟩ (.slice a1 nl d1));rw [bS.out];have S1:Hid (B+2<=W1.heap.size):=hd (by rw [<-bS.out,rP,<-S0.out];exact zw.out.size);have Bl:Hid (W1.heap[B]?=some (.cells #[.int .i64 p0,.slice a1 nl d1,.int .i64 p2,.int .i64 p3,.slice oa no oc,.slice qa nq qc] 109 (0,0))):=hd (by rw [<-bS.out];exact ja zx.out 1 _);have Dq:Hid (Below w.heap.size w W1):=hd (by rw [<-bS.out];exact dx (rL.out.trans (zw.out.mono rL.out.size)) (by rw [hB.out];exact aag _));have IP:Hid (∀k,k≠B->k<W0.heap.size->W1.heap[k]?=W0.heap[k]?):=hd (fun k hk bk=>by rw [<-bS.out,kN _ _ _ _ _ hk];exact zw.out.block k bk);have Dr:Hid (Row W1 138 3 a1 nl d1 lu):=hd (R1.out.kept fun k hk=>by rw [<-bS.out];exact kN _ _ _ _ _ (by have:=N1.out k hk;rw [this,S0.out];omega));have vN:Hid (∀k,ae a1=some k->B+2<=k/\k<W1.heap.size):=hd (fun k hk=>⟨by rw [N1.out k hk,S0.out];exact aag _,Dr.out.lt k hk⟩);clear bS R1 N1 zw zx zu y1 y2 x1 c1;have c2:=Tk (c:=oc) (HOr.out.below Dq.out) RJ.out K0.out F2.out;have x1:=aC Bl.out (j:=4) rfl;simp at x1;go_upto_region 3 with(go_at_call 100;(with_reducible refine c2.mono ?_);rintro e w2 ⟨a2,d2,rfl,r1,n1,b1⟩;have R2:=hd r1;have N2:=hd n1;have L_:=hd b1;have Ma:=hd ((b1.block B (aab.1 Bl.out).1).trans Bl.out);have y1:=aC Ma.out (j:=4) rfl;have y2:=BR Ma.out 4;clear r1 n1 b1;simp at y1);obtain ⟨W2,gq⟩:=Haa (w2.setCell ⟨B,4,none⟩ (.slice a2 no d2));rw [gq.out];have S2:Hid (W1.heap.size<=W2.heap.size):=hd (by rw [<-gq.out,rP];exact L_.out.size);have Mb:Hid (W2.heap[B]?=some (.cells #[.int .i64 p0,.slice a1 nl d1,.int .i64 p2,.int .i64 p3,.slice a2 no d2,.slice qa nq qc] 109 (0,0))):=hd (by rw [<-gq.out];exact ja Ma.out 4 _);have Mc:Hid (Below w.heap.size w W2):=hd (by rw [<-gq.out];exact dx (Dq.out.trans (L_.out.mono Dq.out.size)) (by rw [hB.out];exact aag _));have RM:Hid (∀k,k≠B->k<W1.heap.size->W2.heap[k]?=W1.heap[k]?):=hd (fun k hk bk=>by rw [<-gq.out,kN _ _ _ _ _ hk];exact L_.out.block k bk);have RN:Hid (Row W2 3 1 a2 no d2 ou):=hd (R2.out.kept fun k hk=>by rw [<-gq.out];exact kN _ _ _ _ _ (by have:=N2.out k hk;have:=S1.out;omega));have ZI:Hid (∀k,ae a2=some k->W1.heap.size<=k/\k<W2.heap.size):=hd (fun k hk=>⟨by rw [N2.out k hk];exact aag _,RN.out.lt k hk⟩);clear gq R2 N2 L_ Ma Bl y1 y2 x1 c2;have c3:=copied_que (c:=qc) (HQr.out.below Mc.out) L9.out ZH.out f3;have x1:=aC Mb.out (j:=5) rfl;simp at x1;go_upto_region 4 with(go_at_call 101;(with_reducible refine c3.mono ?_);rintro e w3 ⟨a3,d3,rfl,r1,n1,b1⟩;have R3:=hd r1;have N3:=hd n1;have Md:=hd b1;have Me:=hd ((b1.block B (aab.1 Mb.out).1).trans Mb.out);have y1:=aC Me.out (j:=5) rfl;have y2:=BR Me.out 5;clear r1 n1 b1;simp at y1);obtain ⟨W3,kK⟩:=Haa (w3.setCell ⟨B,5,none⟩ (.slice a3 nq d3));rw [kK.out];have S3:Hid (W2.heap.size<=W3.heap.size):=hd (by rw [<-kK.out,rP];exact Md.out.size);have RP:Hid (W3.heap[B]?=some (.cells #[.int .i64 p0,.slice a1 nl d1,.int .i64 p2,.int .i64 p3,.slice a2 no d2,.slice a3 nq d3] 109 (0,0))):=hd (by rw [<-kK.out];exact ja Me.out 5 _);have ZJ:Hid (Below w.heap.size w W3):=hd (by rw [<-kK.out];exact dx (Mc.out.trans (Md.out.mono Mc.out.size)) (by rw [hB.out];exact aag _));have Mf:Hid (∀k,k≠B->k<W2.heap.size->W3.heap[k]?=W2.heap[k]?):=hd (fun k hk bk=>by rw [<-kK.out,kN _ _ _ _ _ hk];exact Md.out.block k bk);have RQ:Hid (Row W3 23 1 a3 nq d3 qu):=hd (R3.out.kept fun k hk=>by rw [<-kK.out];exact kN _ _ _ _ _ (by have:=N3.out k hk;have:=S1.out;have:=S2.out;omega));have Ds:Hid (∀k,ae a3=some k->W2.heap.size<=k/\k<W3.heap.size):=hd (fun k hk=>⟨by rw [N3.out k hk];exact aag _,RQ.out.lt k hk⟩)
 have ZK:Hid (W3.heap[B+1]?=some (.cells #[.int .i64 0,.slice none 0 0,.int .i64 0,.int .i64 0,.slice none 0 0,.slice none 0 0] 109 (0,0))):=hd (by
  have s1:=S1.out;have s2:=S2.out;have s0:=S0.out;rw [Mf.out _ (by omega) (by omega),RM.out _ (by omega) (by omega),IP.out _ (by omega) (by omega)]
  exact IM.out)
 have LG:Hid (gQ 138 3 (fun _ _=>eE) (B+2) W1.heap.size W3 (.slice a1 nl d1) pl):=hd (by
  have s1:=S1.out;have s2:=S2.out;have hb:=hB.out;have h0:=gQ.flat (E:=eE) (fun _ _ _ _ h=>h) (xs:=pl) (lo:=B+2) (hi:=W1.heap.size) (by rw [gY.out];exact Dr.out) vN.out s1 (by rw [gY.out];have:=F1.out;unfold iD;omega) (fun i hi=>mO.out i (by rw [<-gY.out];exact hi));rw [gY.out]at h0
  exact h0.kept (w':=W3) (fun k l1 l2=>by rw [Mf.out k (by omega) (by omega),RM.out k (by omega) (by omega)]) fun _ _ _ _ _ _ h=>h)
 have LO:Hid (gQ 3 1 (fun _ _=>iE) W1.heap.size W2.heap.size W3 (.slice a2 no d2) po):=hd (by
  have s1:=S1.out;have s2:=S2.out;have h0:=gQ.flat (E:=iE) (fun _ _ _ _ h=>h) (xs:=po) (lo:=W1.heap.size) (hi:=W2.heap.size) (by rw [gM.out];exact RN.out) ZI.out s2 (by rw [gM.out];have:=F2.out;unfold iD;omega) (fun i hi=>RK.out i (by rw [<-gM.out];exact hi));rw [gM.out]at h0
  exact h0.kept (w':=W3) (fun k l1 l2=>Mf.out k (by omega) (by omega)) fun _ _ _ _ _ _ h=>h)
 have P0:Hid (PI W3 a3 nq d3 qu pq 0 W3):=hd ⟨⟨qu,fun _=>W3.heap.size,RQ.out,rfl,rfl,fun j hj=>absurd hj (aao j),fun j hj=>absurd hj (aao j),fun j _ _=>rfl⟩,Mod.refl _ _,fun k hk=>(Ds.out k hk).2⟩
 have Dt:Hid (∀wr i,PI W3 a3 nq d3 qu pq i wr->wr.heap[B]?=some (.cells #[.int .i64 p0,.slice a1 nl d1,.int .i64 p2,.int .i64 p3,.slice a2 no d2,.slice a3 nq d3] 109 (0,0))/\wr.heap[B+1]?=some (.cells #[.int .i64 0,.slice none 0 0,.int .i64 0,.int .i64 0,.slice none 0 0,.slice none 0 0] 109 (0,0))/\Below w.heap.size w wr):=hd (fun wr i h=>by
  have s1:=S1.out;have s2:=S2.out;have s3:=S3.out;have hb:=hB.out;refine ⟨?_, ?_, ?_⟩
  ·rw [h.md.block B (by omega) (fun e=>by have:=Ds.out B e;omega)];exact RP.out
  ·rw [h.md.block (B+1) (by omega) (fun e=>by have:=Ds.out (B+1) e;omega)];exact ZK.out
  ·exact ZJ.out.trans (h.md.below (by omega) (fun k _ e=>by have:=Ds.out k e;omega)))
 have IQ:Hid (∀g:Nat,a3=some ⟨g,0,none⟩->B≠g/\g≠B):=hd (fun g e=>by
  have:=Ds.out g (by rw [e];rfl);have s1:=S1.out;have s2:=S2.out
  omega)
 have ZL:Hid (B+2<=W1.heap.size/\W1.heap.size<=W2.heap.size/\W2.heap.size<=W3.heap.size):=hd ⟨S1.out,S2.out,S3.out⟩;have Mg:Hid (qu.length=nq):=hd (by have:=L9.out;omega);have IU:Hid (∀k,ae a3=some k->W2.heap.size<=k/\k<W3.heap.size):=Ds;have x1:=aC RP.out (j:=5) rfl;simp at x1;clear kK R3 N3 Md Me Mb RP y1 y2 c3 Dr RN RQ vN ZI Ds IP RM Mf IM ZK S0 S1 S2 S3 Dq Mc ZJ rL IL HOr Bk RJ kZ K0 ZH mO RK F1 F2 gY gM;go_wp2_with fail;go_loopg [20] nq (fun k v20 wr=>∃(i:Nat),v20=.int .i64 (i:Int)/\i+k=nq/\Hid (PI W3 a3 nq d3 qu pq i wr))
 case atStart=>exact ⟨0,rfl,by omega,P0⟩
 case round=>
  obtain ⟨i,rfl,dh,HP⟩:=hrel;clear P0 x1;obtain ⟨bx,br,bw⟩:=Dt.out wr i HP.out;by_cases af:i<nq
  ·have fI:(i:Int)<(nq:Int):=by omega
   obtain ⟨vq,Fg,dq⟩:=RL.out i af;have kU:=Mg.out;rw [VI qu i (by omega)]at Fg;obtain ⟨aq,cq,uq,rfl,rq,lq,oq,bq,sq⟩:=dq.cells (iE.one w);have ZM:qu.getD i undef=.slice aq (pq.getD i default).length cq:=by simpa using Fg
   obtain ⟨L,b,r1,-,-,-,-,r6⟩:=HP.out.ex;obtain ⟨g,rfl,fq⟩:=r1.cell i (by omega);have KP:i<L.length:=by rw [r1.len];omega
   rw [aad KP]at fq;have ZN:L[i]=.slice aq (pq.getD i default).length cq:=by
    rw [<-ZM,<-r6 i (aag _) af,aac,aad KP];rfl
   rw [ZN]at fq;have aJ:=Tk (c:=cq) (rq.below (bw.trans ((fu wr).mono bw.size))) lq oq (AB.out i)
   have HS:Hid (∀v w1,jd wr.drew 3 1 (pq.getD i default).length uq (.returned v) w1->PI W3 (some ⟨g,0,none⟩) nq d3 qu pq (i+1) (w1.setCell ⟨g,i,none⟩ v)/\(∃u,w1.cell? ⟨g,i,none⟩=some u)/\w1.frozen? ⟨g,i,none⟩=false):=hd (fun v w1 hc=>by
    obtain ⟨g',e',h1,h2,h3,h4⟩:=HP.out.step af hc rfl bq sq
    cases e'
    exact ⟨h1,h2,h3⟩)
   obtain ⟨mo,mQ⟩:=IQ.out g rfl;have f5:=aC bx (j:=5) rfl;simp at f5;have H5:Hid (∀V,Below wr.heap.size wr V->V.cell? ⟨B,5,none⟩=some (.slice (some ⟨g,0,none⟩) nq d3)):=hd (fun V hb=>(hb.cell (aaj wr _ f5)).trans f5);obtain ⟨N,hN⟩:=Haa ((pq.getD i default).length);rw [hN.out]at aJ fq HS;clear rq lq oq bq sq ZM r1 r6 KP ZN Fg dq bx br bw hN kU;go_upto_region 7 with fail;go_region_held3 (fun w'=>w'.cell? ⟨B,5,none⟩=some (.slice (some ⟨g,0,none⟩) nq d3)) (go_keep)
    (first
     |(go_at_call 100;(with_reducible refine aJ.mono ?_);rintro e w2 ⟨a9,c9,rfl,r9,n9,b9⟩;obtain ⟨tA,⟨u2,Mh⟩,oZ⟩:=HS.out _ w2 ⟨a9,c9,rfl,r9,n9,b9⟩;have GP:=hd tA;have g5:=H5.out w2 (cC b9);clear tA r9 n9))
   all_goals (
    go_wp2_with fail;go_roundg (gk-1)
    case rel=>exact ⟨i+1,by go_num,by omega,GP⟩
    case measure=>omega)
  ·obtain rfl:i=nq:=by omega
   obtain ⟨g1,g2,g3⟩:=set6 br (.int .i64 p0) (.slice a1 nl d1) (.int .i64 p2) (.int .i64 p3) (.slice a2 no d2) (.slice a3 i d3);have g4:=set6_below (A:=w.heap.size) (B:=B+1) bw (by have:=hB.out;omega) (.int .i64 p0) (.slice a1 nl d1) (.int .i64 p2) (.int .i64 p3) (.slice a2 no d2) (.slice a3 i d3);obtain ⟨FW,xK⟩:=Haa ((((((wr.setCell ⟨B+1,0,none⟩ (.int .i64 p0)).setCell ⟨B+1,1,none⟩ (.slice a1 nl d1)).setCell ⟨B+1,2,none⟩ (.int .i64 p2)).setCell ⟨B+1,3,none⟩ (.int .i64 p3)).setCell ⟨B+1,4,none⟩ (.slice a2 no d2)).setCell ⟨B+1,5,none⟩ (.slice a3 i d3));rw [xK.out]at g1 g2 g3 g4;have HZ:=hd g1
   have HO:Hid (Q (.returned (.agg #[.int .i64 p0,.slice a1 nl d1,.int .i64 p2,.int .i64 p3,.slice a2 no d2,.slice a3 i d3])) FW):=hd (by
    rw [<-hQ.out];obtain ⟨s1,s2,s3⟩:=ZL.out;have hb:=hB.out;have hm:=HP.out.md;obtain ⟨L,b,r1,r2,r3,r4,r5,r6⟩:=HP.out.ex;have jy:=pM i r4;have ia:=hm.size;refine ⟨_,rfl,⟨_,_,_,W1.heap.size,W2.heap.size,rfl,by omega,s2,by rw [g2];omega, ?_, ?_, ?_⟩,g4⟩
    ·exact (LG.out.kept (w':=FW) (fun k l1 l2=>by rw [g3 k (by omega)];exact hm.block k (by omega) (fun e=>by have:=IU.out k e;omega)) fun _ _ _ _ _ _ h=>h).wide (by omega) (aag _)
    ·exact LO.out.kept (w':=FW) (fun k l1 l2=>by rw [g3 k (by omega)];exact hm.block k (by omega) (fun e=>by have:=IU.out k e;omega)) fun _ _ _ _ _ _ h=>h
    ·have fW:=dV.out;refine ⟨a3,d3,L,b,by rw [fW], ?_,fun k hk=>by have:=IU.out k hk;omega,by omega,fun j hj=>r4 j (by rw [<-fW];exact hj),by rw [fW,r3,g2];exact aag _,by rw [fW];unfold iD;omega,fun j hj=> ?_⟩
     ·rw [fW];exact r1.kept fun k hk=>g3 k (by have:=IU.out k hk;omega)
     ·replace hj:j<i:=by rw [<-fW];exact hj
      rw [VI L j (by rw [r1.len];omega)]
      exact (r5 j hj).kept fun k l1 l2=>g3 k (by have:=(jy j (by omega)).1;omega))
   clear g1 g2 g3 g4;have v0:=aC bx (j:=0) rfl;have v1:=aC bx (j:=1) rfl;have v2:=aC bx (j:=2) rfl;have v3:=aC bx (j:=3) rfl;have v4:=aC bx (j:=4) rfl;have v5:=aC bx (j:=5) rfl;have z0:=aC br (j:=0) rfl;have z1:=aC br (j:=1) rfl;have z2:=aC br (j:=2) rfl;have z3:=aC br (j:=3) rfl;have z4:=aC br (j:=4) rfl;have z5:=aC br (j:=5) rfl;have zf:∀j,wr.frozen? ⟨B+1,j,none⟩=false:=fun j=>BR br j
   clear HP bx br bw af dh RL AB Dt IQ ZL IU LG LO L9 Mg hQ hB dV;go_wp2_with fail;rw [xK.out];refine aar (v:=.agg #[.int .i64 p0,.slice a1 nl d1,.int .i64 p2,.int .i64 p3,.slice a2 no d2,.slice a3 i d3]) ?_ rfl HO.out;have y0:=aC HZ.out (j:=0) rfl;have y1:=aC HZ.out (j:=1) rfl;have y2:=aC HZ.out (j:=2) rfl;have y3:=aC HZ.out (j:=3) rfl;have y4:=aC HZ.out (j:=4) rfl;have y5:=aC HZ.out (j:=5) rfl;clear HO HZ v0 v1 v2 v3 v4 v5 z0 z1 z2 z3 z4 z5 zf;simp at y0 y1 y2 y3 y4 y5;simp [results,results72,go_sem,y0,y1,y2,y3,y4,y5]
theorem Cq(sz:Nat)(L:List Value)(i r:Nat)(hr:r<sz):(el sz L i)[r]?=L[i*sz+r]?:=by
 unfold el;rw [aaO,aah hr,abB]
theorem dJ{sz:Nat}{L:List Value}{i j r:Nat}{v:Value}(hr:r<sz):el sz (L.set (i*sz+r) v) j=if j=i then(el sz L j).set r v else el sz L j:=by
 apply aaT;intro q;by_cases hq:q<sz
 ·rw [Cq _ _ _ _ hq,aaP];by_cases e:j=i
  ·subst e;rw [aah rfl,aaP,Cq _ _ _ _ hq];have hlen:r<(el sz L j).length↔j*sz+r<L.length:=by
    constructor
    ·intro h;have:=Cq sz L j r hr;rw [aad h]at this;exact (abE.1 this.symm).1
    ·intro h;have:=Cq sz L j r hr;rw [aad h]at this;exact (abE.1 this).1
   by_cases e2:r=q
   ·subst e2;simp only [if_true,hlen]
   ·rw [aaf (by omega),aaf e2]
  ·rw [aaf e,Cq _ _ _ _ hq,aaf];intro h;apply e;rcases Nat.lt_trichotomy i j with h1|h1|h1
   ·have:=aaI sz (show i+1<=j from h1);rw [abr]at this;omega
   ·exact h1.symm
   ·have:=aaI sz (show j+1<=i from h1);rw [abr]at this;omega
 ·have h1:(el sz (L.set (i*sz+r) v) j)[q]?=none:=by unfold el;rw [aaO,aaf hq]
  have h2:(el sz L j)[q]?=none:=by unfold el;rw [aaO,aaf hq]
  rw [h1];split
  ·rw [aaP];split
   ·rename_i h
    exfalso;omega
   ·exact h2.symm
  ·exact h2.symm
structure LI(W3:World)(a:Option Addr)(n c:Nat)(us:List Value)(ls:List mW)(i:Nat)(wr:World):Prop where
 ex:∃(L:List Value) (b:Nat->Nat),Row wr 147 4 a n c L/\b 0=W3.heap.size/\b i=wr.heap.size/\(∀j,j<i->b j<=b (j+1))/\(∀j,j<i->lO (b j) (b (j+1)) wr (el 4 L j) (ls.getD j default))/\(∀j,i<=j->j<n->el 4 L j=el 4 us j)
 md:Mod (fun k=>ae a=some k) W3 wr
 lt:∀k,ae a=some k->k<W3.heap.size
structure LJ(W3:World)(a:Option Addr)(n c:Nat)(us:List Value)(ls:List mW)(i:Nat)(v1:Value)(wr:World):Prop where
 ex:∃(L:List Value) (b:Nat->Nat),Row wr 147 4 a n c L/\b 0=W3.heap.size/\b i<=wr.heap.size/\(∀j,j<i->b j<=b (j+1))/\(∀j,j<i->lO (b j) (b (j+1)) wr (el 4 L j) (ls.getD j default))/\(∀j,i<j->j<n->el 4 L j=el 4 us j)/\(∃z,el 4 L i=[v1,z,.int .i64 (ls.getD i default).tk,.int .i64 (ls.getD i default).dr])/\gQ 2 1 (fun _ _=>iE) (b i) wr.heap.size wr v1 (ls.getD i default).vs
 md:Mod (fun k=>ae a=some k) W3 wr
 lt:∀k,ae a=some k->k<W3.heap.size
section
variable{W3 wr wa w1:World} {a:Option Addr} {n c i m:Nat} {us xJ:List Value} {ls:List mW} {v v1:Value}
theorem LI.below(h:LI W3 a n c us ls i wr)(hb:Below wr.heap.size wr wa):(∃(L:List Value) (b:Nat->Nat),Row wa 147 4 a n c L/\b 0=W3.heap.size/\b i=wr.heap.size/\(∀j,j<i->b j<=b (j+1))/\(∀j,j<i->lO (b j) (b (j+1)) wa (el 4 L j) (ls.getD j default))/\(∀j,i<=j->j<n->el 4 L j=el 4 us j))/\Mod (fun k=>ae a=some k) W3 wa:=by
 obtain ⟨⟨L,b,r1,r2,r3,r4,r5,r6⟩,kX,af⟩:=h;have jy:=pM i r4;exact ⟨⟨L,b,r1.below hb,r2,r3,r4,fun j hj=>(r5 j hj).kept fun k l1 l2=>hb.block k (by have:=(jy (j+1) (by omega)).2;omega),r6⟩,kX.after hb⟩
theorem LI.step(h:LI W3 a n c us ls i wr)(hi:i<n)(ha:Below wr.heap.size wr wa)(hc:jd wa.drew 2 1 m xJ (.returned v) w1)(hm:m=(ls.getD i default).vs.length)(hb:m<=iD)(he:∀j,j<m->iE w1 (el 1 xJ j) ((ls.getD i default).vs.getD j default))
 {z0 z1:Value}(hz:el 4 us i=[z0,z1,.int .i64 (ls.getD i default).tk,.int .i64 (ls.getD i default).dr]):
 ∃g,a=some ⟨g,0,none⟩/\LJ W3 a n c us ls i v (w1.setCell ⟨g,i*4,none⟩ v)/\(∃u,w1.cell? ⟨g,i*4,none⟩=some u)/\w1.frozen? ⟨g,i*4,none⟩=false:=by
 have af:=h.lt;have hmd0:=h.md;obtain ⟨a',c',e1,k1,k2,k3⟩:=hc
 cases e1
 have aj:=cC k3;obtain ⟨⟨L,b,r1,r2,r3,r4,r5,r6⟩,kX⟩:=h.below (ha.trans (aj.mono ha.size));obtain ⟨g,rfl,q1,q2,q3⟩:=jU r1 (i*4) (by omega) (.slice a' m c');have hg:=af g rfl;have cD:W3.heap.size<=wr.heap.size:=hmd0.size;have hsz1:wr.heap.size<=wa.heap.size:=ha.size;have tO:wa.heap.size<=w1.heap.size:=aj.size;have rD:wa.drew.heap.size=wa.heap.size:=rfl;have jy:=pM i r4;refine ⟨g,rfl,⟨⟨L.set (i*4) (.slice a' m c'),b,q1,r2,by rw [rP];omega,r4,fun j hj=> ?_,fun j hj uo=> ?_,⟨z1, ?_⟩, ?_⟩, ?_,af⟩,q2,q3⟩
 ·have:=dJ (sz:=4) (L:=L) (i:=i) (j:=j) (r:=0) (v:=.slice a' m c') (by decide);rw [aa8]at this;rw [this,aaf (by omega)];exact (r5 j hj).kept fun k l1 l2=>kN _ _ _ _ _ (by have:=(jy j (by omega)).1;omega)
 ·have:=dJ (sz:=4) (L:=L) (i:=i) (j:=j) (r:=0) (v:=.slice a' m c') (by decide);rw [aa8]at this;rw [this,aaf (by omega)];exact r6 j (by omega) uo
 ·have:=dJ (sz:=4) (L:=L) (i:=i) (j:=i) (r:=0) (v:=.slice a' m c') (by decide);rw [aa8]at this;rw [this,aah rfl,r6 i (aag _) hi,hz];rfl
 ·rw [hm,rP,r3];refine gQ.flat (fun _ _ _ _ h=>h) (w:=w1) (us:=xJ) ?_ (fun k hk=> ?_) (by omega) (by omega) (fun x hx=>he x (by omega))
  ·rw [<-hm];exact k1.kept fun k hk=>kN _ _ _ _ _ (by rw [k2 k hk,rD];omega)
  ·have h1:=k1.lt k hk;have h2:=k2 k hk;rw [rD]at h2;omega
 ·exact Mod.setCell (p:=⟨g,i*4,none⟩) kX (.inl rfl) _
theorem LJ.step(h:LJ W3 a n c us ls i v1 wr)(hi:i<n)(hc:jd wr.drew 187 2 m xJ (.returned v) w1)(hm:m=(ls.getD i default).ws.length)(hb:m<=iD)(he:∀j,j<m->wE w1 (el 2 xJ j) ((ls.getD i default).ws.getD j default)):
 ∃g,a=some ⟨g,0,none⟩/\LI W3 a n c us ls (i+1) (w1.setCell ⟨g,i*4+1,none⟩ v)/\(∃u,w1.cell? ⟨g,i*4+1,none⟩=some u)/\w1.frozen? ⟨g,i*4+1,none⟩=false:=by
 obtain ⟨⟨L,b,r1,r2,r3,r4,r5,r6,⟨z,r7⟩,r8⟩,kX,af⟩:=h;obtain ⟨a',c',e1,k1,k2,k3⟩:=hc
 cases e1
 have aj:=cC k3;have Ff:=r1.below aj;obtain ⟨g,rfl,q1,q2,q3⟩:=jU Ff (i*4+1) (by omega) (.slice a' m c');have hg:=af g rfl;have cD:W3.heap.size<=wr.heap.size:=kX.size;have tO:wr.heap.size<=w1.heap.size:=aj.size;have rD:wr.drew.heap.size=wr.heap.size:=rfl;have jy:=pM i r4;have ZO:∀k,k≠g->k<wr.heap.size->(w1.setCell ⟨g,i*4+1,none⟩ (.slice a' m c')).heap[k]?=wr.heap[k]?:=fun k hk bk=>by rw [kN _ _ _ _ _ hk];exact aj.block k bk
 refine ⟨g,rfl,⟨⟨L.set (i*4+1) (.slice a' m c'),fun j=>if j<=i then b j else w1.heap.size,q1,by simpa using r2,by show(if i+1<=i then b (i+1)else w1.heap.size)=_;rw [aaf (by omega),rP],fun j hj=> ?_,fun j hj=> ?_,fun j hj uo=> ?_⟩, ?_,af⟩,q2,q3⟩
 ·by_cases e:j=i
  ·subst e;simp only [Nat.le_refl,if_true];rw [aaf (by omega)];omega
  ·have h1:j<=i:=by omega
   have h2:j+1<=i:=by omega
   simp only [h1,h2,if_true];exact r4 j (by omega)
 ·rw [dJ (by decide)];by_cases e:j=i
  ·subst e;simp only [Nat.le_refl,if_true];rw [aaf (by omega),r7];refine ⟨v1,_,wr.heap.size,rfl,by omega,tO, ?_, ?_⟩
   ·exact r8.kept (fun k l1 l2=>ZO k (by have:=(jy j (aag _)).1;omega) l2) fun _ _ _ _ _ _ h=>h
   ·rw [hm];refine gQ.flat (fun _ _ _ _ h=>h) (w:=w1) (us:=xJ) ?_ (fun k hk=> ?_) tO (by omega) (fun x hx=>he x (by omega))
    ·rw [<-hm];exact k1.kept fun k hk=>kN _ _ _ _ _ (by rw [k2 k hk,rD];omega)
    ·have h1:=k1.lt k hk;have h2:=k2 k hk;rw [rD]at h2;omega
  ·have h1:j<=i:=by omega
   have h2:j+1<=i:=by omega
   simp only [h1,h2,if_true];rw [aaf e];have qn:=jy j h1;have sG:=jy (j+1) h2;exact (r5 j (by omega)).kept fun k l1 l2=>ZO k (by omega) (by omega)
 ·rw [dJ (by decide),aaf (by omega)];exact r6 j (by omega) uo
 ·exact Mod.setCell (p:=⟨g,i*4+1,none⟩) (kX.after aj) (.inl rfl) _
end
def OX(x:n_):Prop:=x.ls.length<=1048576/\∀j,(x.ls.getD j default).vs.length<=1048576/\(x.ls.getD j default).ws.length<=1048576
def Wy(w:World)(x:n_)(e:Ending)(w':World):Prop:=∃cs,e=.returned (.agg cs.toArray)/\rO w.heap.size w'.heap.size w' cs x/\Below w.heap.size w w'
theorem Su{w:World}{g j:Nat}{v:Value}{p:Addr}(h:p.block≠g):(w.setCell ⟨g,j,none⟩ v).cell? p=w.cell? p:=aa1 (w:=w) (kN _ _ _ _ _ h)
theorem copiedProcess_any{w:World}{cs:List Value}{x:n_}(hx:rE w cs x)(hf:OX x):Calls prog 73 #[.agg cs.toArray] w (Wy w x):=by
 obtain ⟨ps,pp,⟨p0,p1,p2,p3,p4,p5,p6,p7⟩,pc,pi,pf,pw,pl⟩:=x;obtain ⟨v,e1,k1⟩:=hx;obtain ⟨f1,f4⟩:=hf;simp only at e1 k1 f1 f4;subst e1;obtain ⟨la,lc,lu,rfl,lr,ll,l1,lB,IK⟩:=k1.cells (lE.one w);obtain ⟨Q,hQ⟩:=Haa (Wy w ⟨ps,pp,⟨p0,p1,p2,p3,p4,p5,p6,p7⟩,pc,pi,pf,pw,pl⟩);rw [hQ.out];have IL:=hd lr;have Bk:=hd ll;have kZ:=hd l1;have mO:=hd IK;have AB:=hd f4;clear lr ll l1 IK f4 k1;obtain ⟨nl,gY⟩:=Haa pl.length;rw [gY.out]at Bk mO f1 lB⊢;have F1:=hd f1;clear lB;go_enter func73,ntmps73;go_upto_region 1 with fail;obtain ⟨W0,aD⟩:=Haa ((w.alloc (.cells #[.int .i64 ps,.int .i64 pp,.int .i64 p0,.int .i64 p1,.int .i64 p2,.int .i64 p3,.int .i64 p4,.int .i64 p5,.int .i64 p6,.int .i64 p7,.int .i64 pc,.int .i64 pi,.bool pf,.int .i64 pw,.slice la nl lc] 115)).alloc (.cells #[.int .i64 0,.int .i64 0,.int .i64 0,.int .i64 0,.int .i64 0,.int .i64 0,.int .i64 0,.int .i64 0,.int .i64 0,.int .i64 0,.int .i64 0,.int .i64 0,.bool false,.int .i64 0,.slice none 0 0] 115));obtain ⟨h1,h2⟩:=DV (w:=w) #[.int .i64 ps,.int .i64 pp,.int .i64 p0,.int .i64 p1,.int .i64 p2,.int .i64 p3,.int .i64 p4,.int .i64 p5,.int .i64 p6,.int .i64 p7,.int .i64 pc,.int .i64 pi,.bool pf,.int .i64 pw,.slice la nl lc] #[.int .i64 0,.int .i64 0,.int .i64 0,.int .i64 0,.int .i64 0,.int .i64 0,.int .i64 0,.int .i64 0,.int .i64 0,.int .i64 0,.int .i64 0,.int .i64 0,.bool false,.int .i64 0,.slice none 0 0] 115;have bu:((w.alloc (.cells #[.int .i64 ps,.int .i64 pp,.int .i64 p0,.int .i64 p1,.int .i64 p2,.int .i64 p3,.int .i64 p4,.int .i64 p5,.int .i64 p6,.int .i64 p7,.int .i64 pc,.int .i64 pi,.bool pf,.int .i64 pw,.slice la nl lc] 115)).alloc (.cells #[.int .i64 0,.int .i64 0,.int .i64 0,.int .i64 0,.int .i64 0,.int .i64 0,.int .i64 0,.int .i64 0,.int .i64 0,.int .i64 0,.int .i64 0,.int .i64 0,.bool false,.int .i64 0,.slice none 0 0] 115)).heap.size=w.heap.size+2:=by simp
 rw [aD.out]at h1 h2 bu⊢;obtain ⟨B,hB⟩:=Haa w.heap.size;rw [hB.out]at h1 bu⊢;have S0:=hd bu;have rL:=hd h2;have aT:=h1 W0 (fk _);have zu:=hd aT.1;have IM:=hd aT.2;clear h1 h2 aD bu aT;have c1:=copied_lan (c:=lc) (IL.out.below rL.out) Bk.out kZ.out F1.out;have x1:=aC zu.out (j:=14) rfl;simp at x1;go_upto_region 2 with(go_at_call 102;(with_reducible refine c1.mono ?_);rintro e w1 ⟨a1,d1,rfl,r1,n1,b1⟩;have R1:=hd r1;have N1:=hd n1;have zw:=hd b1;have zx:=hd ((b1.block B (aab.1 zu.out).1).trans zu.out);have y1:=aC zx.out (j:=14) rfl;have y2:=BR zx.out 14;clear r1 n1 b1;simp at y1);obtain ⟨W1,bS⟩:=Haa (w1.setCell ⟨B,14,none⟩ (.slice a1 nl d1));rw [bS.out];have S1:Hid (B+2<=W1.heap.size):=hd (by rw [<-bS.out,rP,<-S0.out];exact zw.out.size)
 have Bl:Hid (W1.heap[B]?=some (.cells #[.int .i64 ps,.int .i64 pp,.int .i64 p0,.int .i64 p1,.int .i64 p2,.int .i64 p3,.int .i64 p4,.int .i64 p5,.int .i64 p6,.int .i64 p7,.int .i64 pc,.int .i64 pi,.bool pf,.int .i64 pw,.slice a1 nl d1] 115 (0,0))):=hd (by
  have:=ja zx.out 14 (.slice a1 nl d1);rw [bS.out]at this
  simpa using this)
 have Dq:Hid (Below w.heap.size w W1):=hd (by rw [<-bS.out];exact dx (rL.out.trans (zw.out.mono rL.out.size)) (by rw [hB.out];exact aag _));have IP:Hid (∀k,k≠B->k<W0.heap.size->W1.heap[k]?=W0.heap[k]?):=hd (fun k hk bk=>by rw [<-bS.out,kN _ _ _ _ _ hk];exact zw.out.block k bk);have Dr:Hid (Row W1 147 4 a1 nl d1 lu):=hd (R1.out.kept fun k hk=>by rw [<-bS.out];exact kN _ _ _ _ _ (by have:=N1.out k hk;rw [this,S0.out];omega));have vN:Hid (∀k,ae a1=some k->B+2<=k/\k<W1.heap.size):=hd (fun k hk=>⟨by rw [N1.out k hk,S0.out];exact aag _,Dr.out.lt k hk⟩)
 have ZP:Hid (W1.heap[B+1]?=some (.cells #[.int .i64 0,.int .i64 0,.int .i64 0,.int .i64 0,.int .i64 0,.int .i64 0,.int .i64 0,.int .i64 0,.int .i64 0,.int .i64 0,.int .i64 0,.int .i64 0,.bool false,.int .i64 0,.slice none 0 0] 115 (0,0))):=hd (by
  have s0:=S0.out;rw [IP.out _ (by omega) (by omega)]
  exact IM.out)
 have P0:Hid (LI W1 a1 nl d1 lu pl 0 W1):=hd ⟨⟨lu,fun _=>W1.heap.size,Dr.out,rfl,rfl,fun j hj=>absurd hj (aao j),fun j hj=>absurd hj (aao j),fun j _ _=>rfl⟩,Mod.refl _ _,fun k hk=>(vN.out k hk).2⟩
 have Dt:Hid (∀wr,Mod (fun k=>ae a1=some k) W1 wr->wr.heap[B]?=some (.cells #[.int .i64 ps,.int .i64 pp,.int .i64 p0,.int .i64 p1,.int .i64 p2,.int .i64 p3,.int .i64 p4,.int .i64 p5,.int .i64 p6,.int .i64 p7,.int .i64 pc,.int .i64 pi,.bool pf,.int .i64 pw,.slice a1 nl d1] 115 (0,0))/\wr.heap[B+1]?=some (.cells #[.int .i64 0,.int .i64 0,.int .i64 0,.int .i64 0,.int .i64 0,.int .i64 0,.int .i64 0,.int .i64 0,.int .i64 0,.int .i64 0,.int .i64 0,.int .i64 0,.bool false,.int .i64 0,.slice none 0 0] 115 (0,0))/\Below w.heap.size w wr):=hd (fun wr h=>by
  have s1:=S1.out;have hb:=hB.out;refine ⟨?_, ?_, ?_⟩
  ·rw [h.block B (by omega) (fun e=>by have:=vN.out B e;omega)];exact Bl.out
  ·rw [h.block (B+1) (by omega) (fun e=>by have:=vN.out (B+1) e;omega)];exact ZP.out
  ·exact Dq.out.trans (h.below (by omega) (fun k _ e=>by have:=vN.out k e;omega)))
 have IQ:Hid (∀g:Nat,a1=some ⟨g,0,none⟩->(B≠g/\g≠B)/\g<W1.heap.size):=hd (fun g e=>by
  have:=vN.out g (by rw [e];rfl);have s1:=S1.out
  omega)
 have Mg:Hid (lu.length=nl*4):=Bk;have x1:=aC Bl.out (j:=14) rfl;simp at x1;clear bS R1 N1 zw zx zu y1 y2 c1 Dr IP IM ZP Dq rL IL kZ F1 Bl;go_wp2_with fail;go_loopg [12] nl (fun k v12 wr=>∃(i:Nat),v12=.int .i64 (i:Int)/\i+k=nl/\Hid (LI W1 a1 nl d1 lu pl i wr))
 case atStart=>exact ⟨0,rfl,by omega,P0⟩
 case round=>
  obtain ⟨i,rfl,dh,HP⟩:=hrel;clear P0 x1;by_cases af:i<nl
  ·have fI:(i:Int)<(nl:Int):=by omega
   obtain ⟨vv,vw,Fg,dv,dw⟩:=mO.out i af;obtain ⟨av,cv,uv,rfl,rv,lv,ov,bv,sv⟩:=dv.cells (iE.one w);obtain ⟨aw,cw,uw,rfl,ZQ,lw,ow,bw,sw⟩:=dw.cells (wE.one w);have mw:=hd Fg;have HRV:=hd rv;have uJ:=hd ZQ;have HLV:=hd lv;have HLW:=hd lw;have IV:=hd ov;have HOW:=hd ow;have HSV:=hd sv;have vr:=hd sw;have xF:=hd bv;have HBW':=hd bw;clear rv ZQ lv lw ov ow sv sw bv bw Fg dv dw;obtain ⟨L,b,r1,-,-,-,-,r6⟩:=HP.out.ex;obtain ⟨g,rfl,-⟩:=r1.cell (i*4) (by omega);have hc:=fun j (hj:j<4)=>(r1.cell (i*4+j) (by omega)).choose_spec
   have hcell:∀j u,j<4->(el 4 lu i)[j]?=some u->wr.cell? ⟨g,i*4+j,none⟩=some u:=fun j u hj hu=>by
    obtain ⟨g',e',h'⟩:=r1.cell (i*4+j) (by omega)
    cases e'
    rw [h',<-Cq 4 L i j hj,r6 i (aag _) af];exact hu
   rw [mw.out]at hcell;have q0:=hcell 0 _ (by decide) rfl;have q1:=hcell 1 _ (by decide) rfl;have q2:=hcell 2 _ (by decide) rfl;have q3:=hcell 3 _ (by decide) rfl;simp only [Nat.add_zero]at q0;obtain ⟨⟨mo,mQ⟩,hn3⟩:=IQ.out g rfl;have vo:W1.heap.size<=wr.heap.size:=HP.out.md.size;have ZR:g≠wr.heap.size/\wr.heap.size≠g:=by omega
   have ZS:=HP;obtain ⟨N,hN⟩:=Haa ((pl.getD i default).vs.length);obtain ⟨K,hK⟩:=Haa ((pl.getD i default).ws.length);obtain ⟨tk,jN⟩:=Haa ((pl.getD i default).tk);obtain ⟨dr,rD⟩:=Haa ((pl.getD i default).dr);rw [jN.out]at q2;rw [rD.out]at q3;rw [hN.out]at q0;rw [hK.out]at q1;clear r1 r6 hc hcell;go_upto_region 5 with fail;have jA:=aae wr (.cells #[.slice av N cv,.slice aw K cw,.int .i64 tk,.int .i64 dr] 147);have cQ:=aA wr (.cells #[.slice av N cv,.slice aw K cw,.int .i64 tk,.int .i64 dr] 147);obtain ⟨wa,cW⟩:=Haa (wr.alloc (.cells #[.slice av N cv,.slice aw K cw,.int .i64 tk,.int .i64 dr] 147));rw [cW.out]at jA cQ⊢;obtain ⟨G,hG⟩:=Haa wr.heap.size;rw [hG.out]at jA ZR⊢;have RR:=hd jA;have kW:=hd cQ;obtain ⟨bx,br,RS⟩:=Dt.out wa (ZS.out.below cQ).2;have f14:=aC bx (j:=14) rfl;simp at f14;have g0:=aC jA (j:=0) rfl;simp at g0;have H5:Hid (∀V,Below wa.heap.size wa V->V.cell? ⟨B,14,none⟩=some (.slice (some ⟨g,0,none⟩) nl d1)/\V.heap[G]?=some (.cells #[.slice av N cv,.slice aw K cw,.int .i64 tk,.int .i64 dr] 147 (0,0))):=hd (fun V hb=>⟨(hb.cell (aaj wa _ f14)).trans f14,(hb.block G (aab.1 RR.out).1).trans RR.out⟩);have aJ:=copied_i64 (c:=cv) (n:=N) (HRV.out.below (RS.trans ((fu wa).mono RS.size))) (by rw [<-hN.out];exact HLV.out) IV.out (by rw [<-hN.out];exact (AB.out i).1)
   have HS:Hid (∀v w1,jd wa.drew 2 1 N uv (.returned v) w1->LJ W1 (some ⟨g,0,none⟩) nl d1 lu pl i v (w1.setCell ⟨g,i*4,none⟩ v)/\(∃u,w1.cell? ⟨g,i*4,none⟩=some u)/\w1.frozen? ⟨g,i*4,none⟩=false):=hd (fun v w1 hc=>by
    obtain ⟨g',e',h1,h2,h3⟩:=ZS.out.step af kW.out hc hN.out.symm (by rw [<-hN.out];exact xF.out) (by rw [<-hN.out];exact HSV.out) mw.out
    cases e'
    exact ⟨h1,h2,h3⟩)
   clear q0 q1 q2 q3 jA cQ bx br RS cW HP;go_cut [] (fun wy=>Hid (∃v,LJ W1 (some ⟨g,0,none⟩) nl d1 lu pl i v wy)/\Hid (wy.cell? ⟨B,14,none⟩=some (.slice (some ⟨g,0,none⟩) nl d1)/\wy.cell? ⟨G,1,none⟩=some (.slice aw K cw)))
   case first=>
    go_region_held3 (fun w'=>w'.cell? ⟨B,14,none⟩=some (.slice (some ⟨g,0,none⟩) nl d1)/\w'.cell? ⟨G,0,none⟩=some (.slice av N cv)) (go_keep)
     (first
      |(go_at_call 103;(with_reducible refine aJ.mono ?_);rintro e w2 ⟨a9,c9,rfl,r9,n9,b9⟩;obtain ⟨tA,⟨u2,Mh⟩,oZ⟩:=HS.out _ w2 ⟨a9,c9,rfl,r9,n9,b9⟩;have GP:=hd tA;obtain ⟨g5,g6⟩:=H5.out w2 (cC b9);have g7:=aC g6 (j:=0) rfl;have g8:=aC g6 (j:=1) rfl;simp at g7 g8;clear tA r9 n9 g6;replace b9:=hd b9))
    all_goals (
     go_wp2_with fail;go_meet
     case rel=>exact ⟨hd ⟨_,GP.out⟩,hd ⟨(Su mo).trans g5,(Su ZR.2).trans g8⟩⟩)
   case rest=>
    obtain ⟨HJ,Lc⟩:=hcut;clear HS aJ g0 f14 H5 RR kW;obtain ⟨v1,hJ⟩:=HJ.out;obtain ⟨m14,m1⟩:=Lc.out;obtain ⟨-,-,RT⟩:=Dt.out wc hJ.md;have aJ:=copied_wai (c:=cw) (n:=K) (uJ.out.below (RT.trans ((fu wc).mono RT.size))) (by rw [<-hK.out];exact HLW.out) HOW.out (by rw [<-hK.out];exact (AB.out i).2)
    have HS:Hid (∀v w1,jd wc.drew 187 2 K uw (.returned v) w1->LI W1 (some ⟨g,0,none⟩) nl d1 lu pl (i+1) (w1.setCell ⟨g,i*4+1,none⟩ v)/\(∃u,w1.cell? ⟨g,i*4+1,none⟩=some u)/\w1.frozen? ⟨g,i*4+1,none⟩=false):=hd (fun v w1 hc=>by
     obtain ⟨g',e',h1,h2,h3⟩:=hJ.step af hc hK.out.symm (by rw [<-hK.out];exact HBW'.out) (by rw [<-hK.out];exact vr.out)
     cases e'
     exact ⟨h1,h2,h3⟩)
    have H5:Hid (∀V,Below wc.heap.size wc V->V.cell? ⟨B,14,none⟩=some (.slice (some ⟨g,0,none⟩) nl d1)/\V.cell? ⟨G,1,none⟩=some (.slice aw K cw)):=hd (fun V hb=>⟨(hb.cell (aaj wc _ m14)).trans m14,(hb.cell (aaj wc _ m1)).trans m1⟩);clear RT hJ HJ Lc;go_upto_region 6 with fail;go_region_held3 (fun w'=>w'.cell? ⟨B,14,none⟩=some (.slice (some ⟨g,0,none⟩) nl d1)/\w'.cell? ⟨G,1,none⟩=some (.slice aw K cw)) (go_keep)
     (first
      |(go_at_call 104;(with_reducible refine aJ.mono ?_);rintro e w2 ⟨a9,c9,rfl,r9,n9,b9⟩;obtain ⟨tA,⟨u2,Mh⟩,oZ⟩:=HS.out _ w2 ⟨a9,c9,rfl,r9,n9,b9⟩;have GP:=hd tA;obtain ⟨g5,g6⟩:=H5.out w2 (cC b9);clear tA r9 n9;replace b9:=hd b9))
    all_goals (
     go_wp2_with fail;go_roundg (gk-1)
     case rel=>exact ⟨i+1,by go_num,by omega,GP⟩
     case measure=>omega)
  ·obtain rfl:i=nl:=by omega
   obtain ⟨bx,br,bw⟩:=Dt.out wr HP.out.md;obtain ⟨g1,g2,g3⟩:=set15 br (.int .i64 ps) (.int .i64 pp) (.int .i64 p0) (.int .i64 p1) (.int .i64 p2) (.int .i64 p3) (.int .i64 p4) (.int .i64 p5) (.int .i64 p6) (.int .i64 p7) (.int .i64 pc) (.int .i64 pi) (.bool pf) (.int .i64 pw) (.slice a1 i d1);have g4:=set15_below (A:=w.heap.size) (B:=B+1) bw (by have:=hB.out;omega) (.int .i64 ps) (.int .i64 pp) (.int .i64 p0) (.int .i64 p1) (.int .i64 p2) (.int .i64 p3) (.int .i64 p4) (.int .i64 p5) (.int .i64 p6) (.int .i64 p7) (.int .i64 pc) (.int .i64 pi) (.bool pf) (.int .i64 pw) (.slice a1 i d1);obtain ⟨FW,xK⟩:=Haa (((((((((((((((wr.setCell ⟨B+1,0,none⟩ (.int .i64 ps)).setCell ⟨B+1,1,none⟩ (.int .i64 pp)).setCell ⟨B+1,2,none⟩ (.int .i64 p0)).setCell ⟨B+1,3,none⟩ (.int .i64 p1)).setCell ⟨B+1,4,none⟩ (.int .i64 p2)).setCell ⟨B+1,5,none⟩ (.int .i64 p3)).setCell ⟨B+1,6,none⟩ (.int .i64 p4)).setCell ⟨B+1,7,none⟩ (.int .i64 p5)).setCell ⟨B+1,8,none⟩ (.int .i64 p6)).setCell ⟨B+1,9,none⟩ (.int .i64 p7)).setCell ⟨B+1,10,none⟩ (.int .i64 pc)).setCell ⟨B+1,11,none⟩ (.int .i64 pi)).setCell ⟨B+1,12,none⟩ (.bool pf)).setCell ⟨B+1,13,none⟩ (.int .i64 pw)).setCell ⟨B+1,14,none⟩ (.slice a1 i d1));rw [xK.out]at g1 g2 g3 g4;have HZ:=hd g1
   have HO:Hid (Q (.returned (.agg #[.int .i64 ps,.int .i64 pp,.int .i64 p0,.int .i64 p1,.int .i64 p2,.int .i64 p3,.int .i64 p4,.int .i64 p5,.int .i64 p6,.int .i64 p7,.int .i64 pc,.int .i64 pi,.bool pf,.int .i64 pw,.slice a1 i d1])) FW):=hd (by
    rw [<-hQ.out];have s1:=S1.out;have hb:=hB.out;have hm:=HP.out.md;obtain ⟨L,b,r1,r2,r3,r4,r5,r6⟩:=HP.out.ex;have jy:=pM i r4;have ia:=hm.size;have fW:=gY.out;refine ⟨_,rfl,⟨_,rfl, ?_⟩,g4⟩;refine ⟨a1,d1,L,b,by rw [fW], ?_,fun k hk=>by have:=vN.out k hk;omega,by omega,fun j hj=>r4 j (by rw [<-fW];exact hj),by rw [fW,r3,g2];exact aag _,by rw [fW];unfold iD;omega,fun j hj=> ?_⟩
    ·rw [fW];exact r1.kept fun k hk=>g3 k (by have:=vN.out k hk;omega)
    ·replace hj:j<i:=by rw [<-fW];exact hj
     exact (r5 j hj).kept fun k l1 l2=>g3 k (by have:=(jy j (by omega)).1;omega))
   clear g1 g2 g3 g4;have RU:=aC bx (j:=0) rfl;have RV:=aC br (j:=0) rfl;have RW:=aC bx (j:=1) rfl;have RX:=aC br (j:=1) rfl;have RY:=aC bx (j:=2) rfl;have RZ:=aC br (j:=2) rfl;have v3_:=aC bx (j:=3) rfl;have z3_:=aC br (j:=3) rfl;have v4_:=aC bx (j:=4) rfl;have z4_:=aC br (j:=4) rfl;have v5_:=aC bx (j:=5) rfl;have z5_:=aC br (j:=5) rfl;have v6_:=aC bx (j:=6) rfl;have z6_:=aC br (j:=6) rfl;have v7_:=aC bx (j:=7) rfl;have z7_:=aC br (j:=7) rfl;have v8_:=aC bx (j:=8) rfl;have z8_:=aC br (j:=8) rfl;have v9_:=aC bx (j:=9) rfl;have z9_:=aC br (j:=9) rfl;have v10_:=aC bx (j:=10) rfl;have z10_:=aC br (j:=10) rfl;have v11_:=aC bx (j:=11) rfl;have z11_:=aC br (j:=11) rfl;have v12_:=aC bx (j:=12) rfl;have z12_:=aC br (j:=12) rfl;have v13_:=aC bx (j:=13) rfl;have z13_:=aC br (j:=13) rfl;have v14_:=aC bx (j:=14) rfl;have z14_:=aC br (j:=14) rfl;have zf:∀j,wr.frozen? ⟨B+1,j,none⟩=false:=fun j=>BR br j
   clear HP bx br bw af dh mO AB Dt IQ vN Bk Mg hQ hB gY S1;go_wp2_with fail;rw [xK.out];refine aar (v:=.agg #[.int .i64 ps,.int .i64 pp,.int .i64 p0,.int .i64 p1,.int .i64 p2,.int .i64 p3,.int .i64 p4,.int .i64 p5,.int .i64 p6,.int .i64 p7,.int .i64 pc,.int .i64 pi,.bool pf,.int .i64 pw,.slice a1 i d1]) ?_ rfl HO.out;have vO:=aC HZ.out (j:=0) rfl;have vP:=aC HZ.out (j:=1) rfl;have vQ:=aC HZ.out (j:=2) rfl;have Bn:=aC HZ.out (j:=3) rfl;have Bo:=aC HZ.out (j:=4) rfl;have Bq:=aC HZ.out (j:=5) rfl;have Br:=aC HZ.out (j:=6) rfl;have ZT:=aC HZ.out (j:=7) rfl;have ZU:=aC HZ.out (j:=8) rfl;have ZV:=aC HZ.out (j:=9) rfl;have Xx:=aC HZ.out (j:=10) rfl;have Xy:=aC HZ.out (j:=11) rfl;have Xz:=aC HZ.out (j:=12) rfl;have XA:=aC HZ.out (j:=13) rfl;have XB:=aC HZ.out (j:=14) rfl;clear HO HZ RU RV RW RX RY RZ v3_ z3_ v4_ z4_ v5_ z5_ v6_ z6_ v7_ z7_ v8_ z8_ v9_ z9_ v10_ z10_ v11_ z11_ v12_ z12_ v13_ z13_ v14_ z14_ zf xK;simp at vO vP vQ Bn Bo Bq Br ZT ZU ZV Xx Xy Xz XA XB;simp [results,results73,go_sem,vO,vP,vQ,Bn,Bo,Bq,Br,ZT,ZU,ZV,Xx,Xy,Xz,XA,XB]
end Go.Proofs.YthopnfbjiifhhaaGreatDoor.View
