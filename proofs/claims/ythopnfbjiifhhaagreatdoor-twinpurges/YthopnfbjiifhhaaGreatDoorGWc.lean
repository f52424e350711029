/- slices.SortFunc of things: the plain text of the kit's laying. -/
import Derived.Test.YthopnfbjiifhhaaGreatDoorGWa
import Derived.Shelf.SlSortCmp.NoneTotal
set_option maxHeartbeats 2000000
set_option maxRecDepth 100000
namespace Go.Proofs.YthopnfbjiifhhaaGreatDoor.aZ
open Go.Shelf Go.Proofs.Tryz
def sortT_ren:Go.Shelf.Ren:=⟨fun|6=>208|15=>232|14=>231|28=>255|29=>256|20=>247|21=>248|22=>249|23=>250|24=>251|25=>252|26=>253|27=>254|46=>276|47=>277|48=>278|49=>279|50=>280|57=>283|n=>n,fun|22=>234|24=>249|25=>292|3=>3|39=>211|0=>0|53=>252|55=>28|4=>4|46=>354|45=>353|50=>279|5=>5|9=>9|66=>365|70=>369|76=>372|77=>373|n=>n,fun|n=>n⟩
theorem V7:Go.Proofs.SlLaysF0.n6 prog sortT_ren:={
 mixed:=by kernel_rfl
 f6:=⟨Tryz.f208.name,by decide,func208.trans (abb some (by kernel_rfl))⟩
 f14:=⟨Tryz.f231.name,by decide,func231.trans (abb some (by kernel_rfl))⟩
 f15:=func232.trans (abb some (by kernel_rfl))
 f20:=⟨Tryz.f247.name,by decide,func247.trans (abb some (by kernel_rfl))⟩
 f21:=⟨Tryz.f248.name,by decide,func248.trans (abb some (by kernel_rfl))⟩
 f22:=⟨Tryz.f249.name,by decide,func249.trans (abb some (by kernel_rfl))⟩
 f23:=⟨Tryz.f250.name,by decide,func250.trans (abb some (by kernel_rfl))⟩
 f24:=⟨Tryz.f251.name,by decide,func251.trans (abb some (by kernel_rfl))⟩
 f25:=⟨Tryz.f252.name,by decide,func252.trans (abb some (by kernel_rfl))⟩
 f26:=⟨Tryz.f253.name,by decide,func253.trans (abb some (by kernel_rfl))⟩
 f27:=⟨Tryz.f254.name,by decide,func254.trans (abb some (by kernel_rfl))⟩
 f28:=func255.trans (abb some (by kernel_rfl))
 f29:=func256.trans (abb some (by kernel_rfl))
 f46:=⟨Tryz.f276.name,by decide,func276.trans (abb some (by kernel_rfl))⟩
 f47:=func277.trans (abb some (by kernel_rfl))
 f48:=func278.trans (abb some (by kernel_rfl))
 f49:=⟨Tryz.f279.name,by decide,func279.trans (abb some (by kernel_rfl))⟩
 f50:=⟨Tryz.f280.name,by decide,func280.trans (abb some (by kernel_rfl))⟩
 f57:=⟨Tryz.f283.name,by decide,func283.trans (abb some (by kernel_rfl))⟩
 t0:=underlying0
 a0:=isAgg0
 z0:=sizeOf0
 v0:=zeroValue0
 t3:=aaY
 a3:=isAgg3
 z3:=sizeOf3
 v3:=zeroValue3
 t4:=underlying4
 a4:=isAgg4
 z4:=sizeOf4
 v4:=zeroValue4
 t5:=underlying5
 a5:=isAgg5
 z5:=sizeOf5
 v5:=zeroValue5
 t9:=underlying9
 a9:=isAgg9
 z9:=sizeOf9
 v9:=zeroValue9
 t22:=underlying234
 a22:=isAgg234
 z22:=sizeOf234
 v22:=zeroValue234
 t25:=underlying292
 a25:=isAgg292
 z25:=sizeOf292
 v25:=zeroValue292
 t39:=underlying211
 a39:=isAgg211
 z39:=sizeOf211
 v39:=zeroValue211
 t45:=underlying353
 a45:=isAgg353
 z45:=sizeOf353
 v45:=zeroValue353
 t46:=underlying354
 a46:=isAgg354
 z46:=sizeOf354
 v46:=zeroValue354
 t50:=underlying279
 a50:=isAgg279
 z50:=sizeOf279
 v50:=zeroValue279
 t53:=underlying252
 a53:=isAgg252
 z53:=sizeOf252
 v53:=zeroValue252
 t55:=underlying28
 a55:=isAgg28
 z55:=sizeOf28
 v55:=zeroValue28
 t66:=underlying365
 a66:=isAgg365
 z66:=sizeOf365
 v66:=zeroValue365
 t70:=underlying369
 a70:=isAgg369
 z70:=sizeOf369
 v70:=zeroValue369
 t76:=underlying372
 a76:=isAgg372
 z76:=sizeOf372
 v76:=zeroValue372
 t77:=underlying373
 a77:=isAgg373
 z77:=sizeOf373
 v77:=zeroValue373}
open Go.RowKit Go.Sort Go.Shelf Go.Maps
attribute[local go_sem] Oper.semAt_some
def Pq(t:Th):Array Value:=#[.agg #[.int .i64 t.1,.int .i64 t.2]]
variable{b c Bm n g:Nat}{w:World}{D:DataW Unit}{L xs:List Th}{e:TypeId}{d:Array Th}
theorem values_any:Calls prog 178 #[.map (some b)] w fun e w'=>e=.returned (.func (.func 209) #[] #[.pointer (some ⟨w.heap.size,0,none⟩)])/\w'=w.alloc (.cells #[.map (some b)] 233):=by
 go_enter func178,ntmps178
 go_wp2
 go_ret;exact ⟨rfl,rfl⟩
structure x_(D:DataW Unit)(L:List Th)(left:Lit->Bool)(xs:List Th):Prop where
 sub:∀kl,left kl=true->Maps.has D kl=true
 iff:∀t∈L,left (.int .i64 t.2)=true↔t∉xs
 mem:∀t∈xs,t∈L
 qZ:xs.Nodup
theorem x_.start(hM:MapOf oV D L):x_ D L (Maps.has D) []:=
 ⟨fun _ h=>h,fun t ht=>⟨fun _=>aaF,fun _=>by rw [hM.has];exact rR.2 ⟨t,ht,rfl⟩⟩,fun _ h=>absurd h aaF,List.nodup_nil⟩
theorem same_int(x y:Int):(Lit.int .i64 x).sameKey (.int .i64 y)=(x==y):=by
 by_cases h:x=y
 ·subst h;rw [WideAt.sameKey_self (a:=.int .i64 x) trivial];simp
 ·rw [sameKey_ne (by simpa using h)];simp [h]
theorem x_.step{left:Lit->Bool}(h:x_ D L left xs)(hM:MapOf oV D L)(hG:gA L){x:Int}{c:Th}(hl:left (.int .i64 x)=true)(qx:∀zd,D.atKey (.int .i64 x) zd=oV c):x_ D L (fun z=>left z&& !z.sameKey (.int .i64 x)) (xs++[c]):=by
 have hs:=h.sub _ hl;rw [hM.has]at hs;obtain ⟨t,ht,e⟩:=rR.1 hs;have h1:=hM.at' t ht .nil;rw [e,qx]at h1;obtain rfl:=JN h1;subst e;have gJ:c∉xs:=(h.iff c ht).1 hl;refine ⟨fun kl hk=>h.sub kl (by simp at hk;exact hk.1),fun t A_=> ?_,fun t A_=> ?_, ?_⟩
 ·simp only [Bool.and_eq_true,Bool.not_eq_true',same_int,beq_eq_false_iff_ne,List.mem_append,List.mem_singleton,not_or];rw [h.iff t A_];constructor
  ·rintro ⟨h2,h3⟩;exact ⟨h2,fun e=>h3 (by rw [e])⟩
  ·rintro ⟨h2,h3⟩;exact ⟨h2,fun e=>h3 (hG.uniq A_ ht e)⟩
 ·rcases aaX.1 A_ with h2|h2
  ·exact h.mem t h2
  ·simp at h2;subst h2;exact ht
 ·rw [List.nodup_append];exact ⟨h.qZ,by simp,fun a ha b hb=>by simp at hb;subst hb;exact fun e=>gJ (e▸ha)⟩
theorem nodup_len(hx:xs.Nodup)(hL:L.Nodup)(h:∀t,t∈xs↔t∈L):xs.length=L.length:=
 Nat.le_antisymm (hx.length_le_of_subset (fun t ht=>(h t).1 ht)) (hL.length_le_of_subset (fun t ht=>(h t).2 ht))
theorem gA.nodup(h:gA L):L.Nodup:=h.qZ.imp (fun h e=>h (by rw [e]))
def Cl(L:List Th)(xs:List Th):Prop:=xs.length=L.length/\∀t,t∈xs↔t∈L
theorem x_.all{left:Lit->Bool}(h:x_ D L left xs)(hG:gA L)(h0:∀kl,left kl=false):Cl L xs:=by
 have hm:∀t,t∈xs↔t∈L:=fun t=>⟨h.mem t,fun ht=>by
  by_cases hx:t∈xs
  ·exact hx
  ·have:=(h.iff t ht).2 hx;rw [h0]at this
   cases this⟩
 exact ⟨nodup_len h.qZ hG.nodup hm,hm⟩
theorem values1_stops(m:Nat)(hm:1<=m)(Db:Bm<w.heap.size)(hc:w.cell? ⟨Bm,0,none⟩=some (.map (some b)))(d_:w.ownsMap prog 3 oA b L.length D)(hM:MapOf oV D L)(hG:gA L):
 SeqStopsK Fence.wide m prog 209 #[.pointer (some ⟨Bm,0,none⟩)] Pq KeepsWalks (Cl L) (fun _=>True) L.length w:=fun l J Jx W hW hJ hJx hY h0=>by
 have CZ:W.cell? ⟨Bm,0,none⟩=some (.map (some b)):=(hW.cell (p:=⟨Bm,0,none⟩) Db).trans hc;have hownW:W.ownsMap prog 3 oA b L.length D:=by
  have cQ:=d_.lt;obtain ⟨es,clock,hb,Ft,hs,hD⟩:=d_;exact ⟨es,clock,(hW.block b cQ).trans hb,Ft,hs,hD⟩
 clear hW hc d_ hJx;refine callsIn_of_wp func209 rfl trivial ?_ rfl;simp only [ntmps209,List.size_toArray,List.length_cons,List.length_nil,Nat.reduceAdd,Nat.reduceSub,Array.replicate_succ,Array.replicate_zero,List.push_toArray,List.append_toArray,List.nil_append,List.cons_append]
 gi_wp2_with (first
  |(gi_at_range;refine wpListIn_range_own _ rfl _ 233 rfl 3 249 ng underlying233 _ b L.length _ rfl hownW ?_;intro w0 hrg0 KJ bu)
  |gi_in)
 go_frame
 gi_loopw [4] (fun _ wr=>∃(left:Lit->Bool) (uB:Nat) (xs:List Th),wr.ranges prog 3 oA b W.heap.size L.length D left uB/\Hid (xs.length+uB<=L.length/\x_ D L left xs/\J xs wr))
  (fun _ wr=>wr.rangeLeft b W.heap.size)
 case atStart=>
  exact ⟨_,_,[],hrg0,hd ⟨by simp [hM.size],x_.start hM,hJ [] W w0 none h0 KJ (fun r e=>by cases e)⟩⟩
 case round=>
  obtain ⟨left,uB,xs,QN,HH⟩:=hrel
  gi_wp2_with (first
   |(gi_at_next;refine wpListIn_next_ranges _ rfl _ rfl 3 ng oA (Value.int .i64) CV (fun key kl hk=>by obtain ⟨x,hx,_⟩:=Maps.keyOf_int_inv aaY hk;exact ⟨x,hx⟩) (fun v y hv=>by obtain ⟨c,rfl,_⟩:=Je hv;exact ⟨c,rfl⟩) b W.heap.size L.length _ _ _ rfl QN ?_ ?_)
   |gi_in)
  ·intro Av yQ
   gi_wp2
   go_end0;exact ⟨⟨_,rfl⟩,.inl ⟨xs,HH.out.2.1.all hG yQ,HH.out.2.2⟩⟩
  ·intro x c1 c2 kl yd yp w2 Xb Cx iL hv qx hrg2 af lJ mT qw;obtain ⟨x',ex,rfl,_⟩:=Maps.keyOf_int_inv aaY Cx;obtain rfl:x=x':=by simpa using ex
   obtain ⟨c',ec,ez⟩:=Je hv;obtain rfl:=thV_inj ec;obtain ⟨rfl,-⟩:=Prod.mk.inj ez;have YL:J xs w2:=hJ xs wr w2 (some W.heap.size) HH.out.2.2 lJ (fun r e=>by cases e;exact ⟨aag _,QN.iter_walk⟩);have HC2:=hd (HH.out.2.1.step hM hG iL qx);have HL:=hd HH.out.1;clear mT Cx ec hv ez;obtain ⟨w3,iH⟩:=Haa (w2.alloc (.cells #[.int .i64 c1,.int .i64 c2] 249));have YM:J xs w3:=by rw [<-iH.out];exact hJ xs w2 _ none YL (World.grownBy_alloc _ _ _) (fun r e=>by cases e)
   have Xc:w3.ranges prog 3 oA b W.heap.size L.length D (fun z=>left z&& !z.sameKey (.int .i64 x)) Xb:=by rw [<-iH.out];exact hrg2.alloc _
   obtain ⟨fn,tmps,assign,body,hy,hR⟩:=hY xs (c1,c2) w3 YM (by have:=HL.out;omega);simp only [Pq]at hy;simp only [CV]at qw⊢;rw [<-iH.out]at hy hR;clear YL qx HH YM
   gi_wp2
   refine hR.mono ?_;rintro e W3 (⟨rfl,hJ4,hk4⟩|⟨rfl,hJx4⟩)
   ·gi_wp2
    rw [<-iH.out]at Xc;have Xd:=Xc.of_walks hk4
    go_roundw
    case rel=>exact ⟨_,Xb,xs++[(c1,c2)],Xd,hd ⟨by have:=HL.out;simp;omega,HC2.out,hJ4⟩⟩
    case measure=>rw [Xd.left_eq,QN.left_eq];exact af
   ·gi_wp2
    refine aar (abA rfl _ _ _) rfl ?_;exact ⟨⟨_,rfl⟩,.inr ⟨xs++[(c1,c2)],trivial,hJx4⟩⟩
attribute[local go_sem] Oper.semAt_some
theorem owns_row{base:Nat}{v:Value}{xs:List Value}(h:w.ownsRow base e 2 v n xs):∃a c,v=.slice a n c/\Row w e 2 a n c xs/\∀k,ae a=some k->base<=k:=by
 obtain ⟨h1,⟨rfl,rfl⟩|⟨g,cap,cur,rfl,h2,h3,h4,h5,h6,h7⟩⟩:=h
 ·exact ⟨none,0,rfl,⟨h1,aag _,aaq _,.inl ⟨rfl,rfl⟩⟩,fun k hk=>by cases hk⟩
 ·exact ⟨_,cap,rfl,⟨h1,h4,h5,.inr ⟨g,cur,rfl,h3,by omega,h7⟩⟩,fun k hk=>by cases hk;exact h2⟩
theorem cell_two_new(w:World)(x y:Value)(t:TypeId):∀j u,[x,y][j]?=some u->(w.alloc (.cells #[x,y] t)).cell? ((⟨w.heap.size,0,none⟩:Addr).add j)=some u:=by
 intro j u hj;rw [kO,aaH,aaa _ _ _ _ _ _ (aae w _)];simpa using hj
def AxT(Bs:Nat)(sv:Value)(x:Th)(a':Act)(W:World):Prop:=
 ∃g,a'={tmps:=#[.slice none 0 0,sv,.pointer (some ⟨Bs,0,none⟩),undef,.slice none 0 0,.pointer (some ⟨g,0,none⟩),sv,.agg #[.int .i64 x.1,.int .i64 x.2],undef,undef,undef,undef,undef],defers:=[]}/\W.heap[g]?=some (.cells #[.int .i64 x.1,.int .i64 x.2] 249 (0,0))/\g≠Bs
theorem appendSeq_any(Db:Bm<w.heap.size)(hc:w.cell? ⟨Bm,0,none⟩=some (.map (some b)))(d_:w.ownsMap prog 3 oA b L.length D)(hM:MapOf oV D L)(hG:gA L)(hL:L.length<=8000000000000):
 Calls prog 230 #[.slice none 0 0,.func (.func 209) #[] #[.pointer (some ⟨Bm,0,none⟩)]] w fun e w'=>∃xs v,e=.returned v/\Cl L xs/\w'.ownsRow w.heap.size 249 2 v xs.length (wC xs)/\Below w.heap.size w w':=by
 obtain ⟨i0,hi,su,CL,yn⟩:=info_parts VV;refine (callsIn_wide (n:=3)).1 ?_;refine callsIn_of_wp_marks func230 rfl trivial ?_ rfl;simp only [ntmps230,List.size_toArray,List.length_cons,List.length_nil,Nat.reduceAdd,Nat.reduceSub,Array.replicate_succ,Array.replicate_zero,List.push_toArray,List.append_toArray,List.nil_append,List.cons_append]
 gi_wp2
 have bO:=Boxed.new w 234 (.slice none 0 0);have yU:Below w.heap.size w (w.alloc (.cells #[.slice none 0 0] 234)):=aA w _;have hseq:=values1_stops (w:=w.alloc (.cells #[.slice none 0 0] 234)) 2 (by omega) (Bm:=Bm) (b:=b) (D:=D) (L:=L) (by simp;omega) ((yU.cell (p:=⟨Bm,0,none⟩) Db).trans hc) (d_.alloc _) hM hG;refine wpIn_rangeFunc_ownH rfl (by omega) (gf:=209) (lb:=#[.pointer (some ⟨Bm,0,none⟩)]) rfl trivial (enters_of func209 (by kernel_rfl) rfl)
  hseq walksK_t walksK_b (aak _ _) (fun _=>rfl)
  (fun pre W=>(∃v,Boxed W w.heap.size 234 v/\W.ownsRow w.heap.size 249 2 v pre.length (wC pre)/\True)/\Below w.heap.size w W)
  (fun _ _ _=>False)
  (OwnFrom.and (Own.from (holdsRow_own w.heap.size w.heap.size 234 249 2 (fun pre:List Th=>pre.length) (fun pre=>wC pre) (fun _ _=>True)) _) (ownFrom_below (aag _) (by simp)))
  (fun _ _ _ _ _ hs _ _=>hs)
  ⟨⟨_,bO,World.ownsRow_nil _ _ _ _,trivial⟩,yU⟩
  (AxT w.heap.size (.func (.func 209) #[] #[.pointer (some ⟨Bm,0,none⟩)]))
  (fun x a' _ A B row hs hg hr=>by
   obtain ⟨g,h1,h2,h3⟩:=hs
   exact ⟨g,h1,(hg.block g (aab.1 h2).1 (fun e=>by
    obtain ⟨_,o,ho,hc⟩:=hr g e.symm
    rw [h2]at ho;cases ho;cases hc)).trans h2,h3⟩)
  ?assign ?body ?done ?stop
 case assign=>
  rintro l pre ⟨x1,x2⟩ W K ⟨⟨v,hv,bI,-⟩,hB⟩ hK;simp only [Pq]
  gi_wp2
  refine hK _ _ ((KeepsOthers.alloc W _).from _) (KeepsWalks.alloc W _) ⟨⟨v,hv.alloc _,bI.alloc _,trivial⟩,hB.alloc hB.size _⟩ ⟨W.heap.size,rfl,aae _ _, ?_⟩;have:=hv.lt;omega
 case body=>
  rintro l pre ⟨x1,x2⟩ a' W- -⟨⟨v,hv,bI,-⟩,hB⟩ ⟨g,rfl,hg,qX⟩ af;have Av:=hv.cell;have x0:W.cell? ⟨g,0,none⟩=some (.int .i64 x1):=by rw [aaa _ _ _ _ _ _ hg];rfl
  have x1':W.cell? ⟨g,1,none⟩=some (.int .i64 x2):=by rw [aaa _ _ _ _ _ _ hg];rfl
  gi_wp2_with (gi_at_builtin;refine wpListIn_append_own _ rfl _ _ 234 rfl w.heap.size 249 i0 (.agg #[.int .i64 0,.int .i64 0]) 2 16 underlying234 hi su CL yn rfl (by decide) _ _ _ rfl (bI.alloc _) ⟨W.heap.size,0,none⟩ 1 1 [.int .i64 x1,.int .i64 x2] rfl rfl (cell_two_new _ _ _ _) (by simp [Value.oneCell']) (by unfold maxLen;omega) (by omega) (by have:=hB.size;simp;omega) ?_;intro v' w1 V8 hgrow _;obtain ⟨g',cap',rfl⟩:=ownsRow_succ V8;obtain ⟨AV,AX,j9,bk,aI⟩:=hv.appended (by decide) bI hB.size (aag _) V8 hgrow;have iy:=AV.cell;have jj:=AV.frozen)
  refine ⟨bk.from _,⟨bk.size,fun k o h hw=>bk.same k o h (Obj.not_cells_of_walk hw)⟩,⟨_,AX, ?_⟩,hB.trans aI⟩;rw [aal,Ca];exact j9
 case done=>
  rintro Dd ys W hD hS ⟨⟨v,hv,bI,-⟩,hB⟩ hK;have hc:=hv.cell
  gi_wp2
  refine ⟨by simp,.inl ⟨_,_,rfl,run_takeDeferred hK, ?_⟩⟩;exact ⟨_,results_tmp rfl _ _ _,ys,v,rfl,hS,ownsRow_putObj bI _ hK rfl,hB.trans (belowK_b (w:=w) (aag _) W Dd _ _ (by simp at hD;omega) hK rfl rfl)⟩
 case stop=>
  rintro Dd c pre W _ _ h _;exact h.elim
def tW(t:Th):List Value:=[.int .i64 t.1,.int .i64 t.2]
theorem JZ(x y:Th):ltOf w_ x y=decide (cZ x y):=Vq x y
theorem swoT:SWO (ltOf w_)where
 irrefl x:=by rw [JZ];simpa using FH x
 trans x y z h1 h2:=by
  rw [JZ]at*
  simp only [decide_eq_true_eq]at*
  exact ltT_trans h1 h2
 ntrans x y z h1 h2:=by
  rw [JZ]at*
  simp only [decide_eq_false_iff_not]at*
  exact Jk h2 h1
theorem cmpLaysT(ae off size:Nat)(w:World):CmpLays prog 179 #[] tW 2 w_ ae off size w:=
 fun _ _ _ _ x y=>Sz x y _
theorem flat_at(d:Array Th)(i:Nat)(hi:i<d.size):(flatK tW 2 d)[i*2]! =.int .i64 (ay d.toList i).1/\(flatK tW 2 d)[i*2+1]! =.int .i64 (ay d.toList i).2:=by
 have e:d[i]! =ay d.toList i:=by
  unfold ay;rw [aac,Array.getElem?_toList,Array.getElem!_eq_getD,aat];rfl
 constructor
 ·rw [get_flatK _ _ _ _ (by omega),show i*2/2=i by omega,show i*2% 2=0 by omega,e];rfl
 ·rw [get_flatK _ _ _ _ (by omega),show(i*2+1)/2=i by omega,show(i*2+1)% 2=1 by omega,e];rfl
theorem Ui(d:Array Th)(j:Nat)(hj:j<d.size*2):(wC d.toList)[j]?=some (flatK tW 2 d)[j]!:=by
 have h:=flat_at d (j/2) (by omega);have k:=v_ d.toList (j/2) (by simp;omega);rcases Nat.mod_two_eq_zero_or_one j with e|e
 ·rw [show j=j/2*2 by omega,h.1];exact k.1
 ·rw [show j=j/2*2+1 by omega,h.2];exact k.2
theorem TH(h:Row w e 2 (some ⟨g,0,none⟩) n c (wC d.toList)):HoldsK tW 2 w g 0 d:=fun j hj=>by
 rw [size_flatK]at hj;have hl:=h.len;rw [tI]at hl;simp only [Array.length_toList]at hl;obtain ⟨g',e',hc⟩:=h.cell j (by omega)
 cases e'
 refine ⟨?_,h.free (0+j) g rfl⟩;rw [aaH,hc,Ui d j hj];rfl
theorem row_sorted{m:Nat}{d':Array Th}{os:Array Obj}(h:Row w e 2 (some ⟨g,0,none⟩) n c (wC d.toList))(hs:d'.size=d.size):
 Row (sortWorldK tW 2 w g 0 m d' os) e 2 (some ⟨g,0,none⟩) n c (wC d'.toList)/\Mod (fun k=>k=g) w (sortWorldK tW 2 w g 0 m d' os):=by
 have hH:=TH h;have af:=h.lt g rfl;have hh:=holdsK_sortWorldK tW 2 w g 0 m d d' os af hH hs;have hl:=h.len;rw [tI]at hl;simp only [Array.length_toList]at hl;obtain ⟨h1,h2,h3,⟨h4,_⟩|⟨g',cur,h4,h5,h6,h7⟩⟩:=h
 ·cases h4
 ·cases h4
  have hg:(sortWorldK tW 2 w g 0 m d' os).heap[g]?=some (.cells (putCells id 0 (flatK tW 2 d') cur) e (0,0)):=by
   unfold sortWorldK putRowK putRow;rw [heap_grow_old _ _ (by simpa [mapBlock,ahead]using af)];simp [mapBlock,Array.getElem?_modify,h5,onCells]
  refine ⟨⟨by rw [tI];simp;omega,h2,h3,.inr ⟨g,_,rfl,hg,by simpa [putCells]using h6, ?_⟩⟩, ?_⟩
  ·apply aaT;intro j;rw [aaO];by_cases hj:j<n*2
   ·rw [aah hj];have:=(hh j (by rw [size_flatK];omega)).1;rw [aaH,aaa _ _ _ _ _ _ hg]at this;rw [Ui d' j (by omega)];simpa using this
   ·rw [aaf hj,aas (by rw [tI];simp;omega)]
  ·refine ⟨rfl,rfl,rfl,by simp [sortWorldK,putRowK,putRow,mapBlock],fun k hk hn=> ?_⟩;unfold sortWorldK putRowK putRow;rw [heap_grow_old _ _ (by simpa [mapBlock,ahead]using hk)];simp only [mapBlock,Array.getElem?_modify];rw [aaf (fun e=>hn e.symm)];rfl
theorem isAggT(w:World):(isAgg 249).run prog w=.ok true w:=isAgg249 w
theorem sizeOfT(w:World):(Go.sizeOf 249).run prog w=.ok 2 w:=sizeOf249 w
theorem sort_row(h:Row w 249 2 (some ⟨g,0,none⟩) xs.length c (wC xs))(hn:xs.length<=8000000000000):
 Calls prog 208 #[.slice (some ⟨g,0,none⟩) xs.length c,.func (.func 179) #[] #[]] w fun e w'=>e=.returned (.tuple #[])/\∃ys,Row w' 249 2 (some ⟨g,0,none⟩) xs.length c (wC ys)/\ys.length=xs.length/\(∀x,x∈ys↔x∈xs)/\gF (ay ys) ys.length/\Mod (fun k=>k=g) w w':=by
 have eg:∀args w,(callFunc 179 args).run prog w=.ok (.enter 179 args) w:=enters_of func179 (by kernel_rfl) rfl;have Xe:=AnyQ.slices_SortFunc V7 2 isAggT sizeOfT tW (fun _=>rfl) (fun x v hv=>by simp [tW]at hv;rcases hv with rfl|rfl<;>rfl) w_ swoT 179 #[] g 0 c xs.toArray w eg (cmpLaysT g 0 xs.toArray.size w) (TH h) (h.lt g rfl) (by simp;omega);change Calls prog 208 _ _ _ at Xe;refine Xe.mono ?_;rintro e w' ⟨rfl,d',n,os,hp,hs,rfl⟩;have cD:d'.size=xs.toArray.size:=hp.1;obtain ⟨r1,r2⟩:=row_sorted (m:=n) (os:=os) (d:=xs.toArray) (d':=d') h cD;have vk:d'.toList.Perm xs:=by
  have:=hp.2.2;rw [Array.extract_eq_self_of_le (by rw [<-cD];exact aag _),Array.extract_eq_self_of_le (aag _)]at this;simpa using this
 refine ⟨rfl,d'.toList,r1,by simpa using cD,fun x=>vk.mem_iff,gF.sorted (fun i j iI hj=> ?_),r2⟩;have fV:j<d'.size:=by simpa using hj
 have:=hs i j (aaq _) iI (by rw [<-cD];exact fV);rw [JZ]at this;have e:∀i,i<d'.size->d'[i]! =ay d'.toList i:=fun i hi=>by
  unfold ay;rw [aac,Array.getElem?_toList,Array.getElem!_eq_getD,aat];rfl
 rw [e j fV,e i (by omega)]at this;simpa using this
theorem collect_any(Db:Bm<w.heap.size)(hc:w.cell? ⟨Bm,0,none⟩=some (.map (some b)))(d_:w.ownsMap prog 3 oA b L.length D)(hM:MapOf oV D L)(hG:gA L)(hL:L.length<=8000000000000):
 Calls prog 207 #[.func (.func 209) #[] #[.pointer (some ⟨Bm,0,none⟩)]] w fun e w'=>∃xs a c,e=.returned (.slice a xs.length c)/\Cl L xs/\Row w' 249 2 a xs.length c (wC xs)/\(∀k,ae a=some k->w.heap.size<=k)/\Below w.heap.size w w':=by
 have h:=appendSeq_any Db hc d_ hM hG hL;clear d_ hM hG hc;go_enter func207,ntmps207;go_wp2_with (first|(go_at_call 230;refine h.mono ?_;rintro e1 w1 ⟨xs,v,rfl,hA,hO,hb⟩;obtain ⟨a,c,rfl,hR,hn⟩:=owns_row hO));go_ret;exact ⟨xs,a,c,rfl,hA,hR,hn,hb⟩
theorem sort_none(p:Option Addr)(c:Nat)(fv:Value)(w:World):Calls prog 208 #[.slice p 0 c,fv] w fun e w'=>e=.returned (.tuple #[])/\w'=w:=by
 have h:=AnyF.slices_SortFunc_none V7 p c fv w;change Calls prog 208 _ _ _ at h;exact h
theorem sort_any{a:Option Addr}(h:Row w 249 2 a xs.length c (wC xs))(hn:xs.length<=8000000000000):
 Calls prog 208 #[.slice a xs.length c,.func (.func 179) #[] #[]] w fun e w'=>e=.returned (.tuple #[])/\∃ys,Row w' 249 2 a xs.length c (wC ys)/\ys.length=xs.length/\(∀x,x∈ys↔x∈xs)/\gF (ay ys) ys.length/\Mod (fun k=>ae a=some k) w w':=by
 by_cases h0:xs.length=0
 ·have hx:xs=[]:=aaN h0;subst hx;refine (sort_none a c _ w).mono ?_;rintro e w' ⟨rfl,rfl⟩;exact ⟨rfl,[],h,rfl,fun _=>Iff.rfl,fun k h0 hk=>absurd hk (aao _),Mod.refl _ _⟩
 ·obtain ⟨g,rfl⟩:=h.head (by omega);refine (sort_row h hn).mono ?_;rintro e w' ⟨rfl,ys,h1,h2,h3,h4,h5⟩;exact ⟨rfl,ys,h1,h2,h3,h4,h5.mono (fun k _ hk=>by rw [hk];rfl)⟩
def MY(w:World)(L:List Th)(e:Ending)(w':World):Prop:=
 ∃ys a c,e=.returned (.slice a ys.length c)/\Cl L ys/\Row w' 249 2 a ys.length c (wC ys)/\(∀k,ae a=some k->w.heap.size<=k)/\gF (ay ys) ys.length/\Below w.heap.size w w'
theorem sorted_any(Db:Bm<w.heap.size)(hc:w.cell? ⟨Bm,0,none⟩=some (.map (some b)))(d_:w.ownsMap prog 3 oA b L.length D)(hM:MapOf oV D L)(hG:gA L)(hL:L.length<=8000000000000):
 Calls prog 177 #[.func (.func 209) #[] #[.pointer (some ⟨Bm,0,none⟩)],.func (.func 179) #[] #[]] w (MY w L):=by
 have h:=collect_any Db hc d_ hM hG hL;clear d_ hM hG hc;go_enter func177,ntmps177;go_upto_region 2 with(first|(go_at_call 207;refine h.mono ?_;rintro e1 w1 ⟨xs,a,c,rfl,hA,hR,hn,hb⟩));have hs:=sort_any hR (by rw [hA.1];exact hL)
 have HE:Hid (∀w2 ys,Row w2 249 2 a xs.length c (wC ys)->ys.length=xs.length->(∀x,x∈ys↔x∈xs)->gF (ay ys) ys.length->Mod (fun k=>ae a=some k) w1 w2->MY w L (.returned (.slice a xs.length c)) w2):=hd (fun w2 ys r1 r2 r3 r4 r5=>
  ⟨ys,a,c,by rw [r2],⟨by rw [r2];exact hA.1,fun t=>(r3 t).trans (hA.2 t)⟩,by rw [r2];exact r1,hn,r4,hb.trans (r5.below hb.size (fun k _ hk=>hn k hk))⟩)
 clear hA hR hn hb h;generalize xs.length=n at*
 go_wp2_with (first|(go_at_call 208;refine hs.mono ?_;rintro e2 w2 ⟨rfl,ys,r1,r2,r3,r4,r5⟩));go_ret;exact HE.out _ _ r1 r2 r3 r4 r5
structure f_(w:World)(b m:Nat)(a:Option Addr)(c:Nat)(L O:List Th):Prop where
 hp:fU w b m a c O
 map:∃D,w.ownsMap prog 3 oA m L.length D/\MapOf oV D L
 mb:m≠b
 ma:ae a≠some m
 good:gA L
 heap:gF (ay O) O.length
 all:∀t∈L,t∈O
 fit:∀t∈O,si t
def rC(b m:Nat)(a:Option Addr)(k:Nat):Prop:=k=b\/k=m\/ae a=some k
section
variable{w w':World} {b m:Nat} {a:Option Addr} {c:Nat} {L O:List Th}
theorem DK{W W':World}{R:Value->Option (DataW Unit×List MemPlace)}{k n:Nat}{T:TypeId}{D:DataW Unit}(h:W.ownsMap prog T R k n D)(e:W'.heap[k]?=W.heap[k]?):W'.ownsMap prog T R k n D:=by
 unfold World.ownsMap at*
 rw [e];exact h
theorem DH{W:World}{R:Value->Option (DataW Unit×List MemPlace)}{k n:Nat}{T:TypeId}{D:DataW Unit}(h:W.ownsMap prog T R k n D):W.ownsMap prog T R k (Maps.size D) D:=by
 obtain ⟨es,clock,hb,F,hs,hD⟩:=h;exact ⟨es,clock,hb,F,by subst hD;simp [Maps.size,length_sorted],hD⟩
theorem f_.mlt(h:f_ w b m a c L O):m<w.heap.size:=by
 obtain ⟨D,h1,_⟩:=h.map;exact h1.lt
theorem f_.lt(h:f_ w b m a c L O):∀k,rC b m a k->k<w.heap.size:=fun k hk=>by
 rcases hk with rfl|rfl|hk
 ·exact h.hp.blt
 ·exact h.mlt
 ·exact h.hp.lt k hk
theorem f_.mod{S:Nat->Prop}(h:f_ w b m a c L O)(hm:Mod S w w')(hn:∀k,rC b m a k->¬S k):f_ w' b m a c L O:=by
 obtain ⟨D,h1,h2⟩:=h.map;exact ⟨h.hp.mod hm (hn b (.inl rfl)) (fun k hk=>hn k (.inr (.inr hk))),⟨D,DK h1 (hm.block m h.mlt (hn m (.inr (.inl rfl)))),h2⟩,h.mb,h.ma,h.good,h.heap,h.all,h.fit⟩
theorem f_.below(h:f_ w b m a c L O)(hb:Below w.heap.size w w'):f_ w' b m a c L O:=h.mod (Mod.aS (fun _=>False) hb) (fun _ _ h=>h)
theorem f_.order{a':Option Addr}{c':Nat}{O':List Th}(h:f_ w b m a c L O)(hT:jE w b m a w' a' c' O')(hh:gF (ay O') O'.length)(aY:∀t∈L,t∈O')(gU:∀t∈O',si t):f_ w' b m a' c' L O':=by
 obtain ⟨D,h1,h2⟩:=h.map;refine ⟨hT.hp,⟨D,DK h1 (hT.mod.block m h.mlt (fun e=> ?_)),h2⟩,h.mb,fun e=> ?_,h.good,hh,aY,gU⟩
 ·rcases e with e|e
  ·exact h.mb e
  ·exact h.ma e
 ·rcases hT.new m e with h3|h3
  ·exact h.ma h3
  ·have:=h.mlt;omega
end
theorem V9(w:World):(zeroValue 249).run prog w=.ok (.agg #[.int .i64 0,.int .i64 0]) w:=zeroValue249 w
variable{t:Th}{W w w' w1 w2:World}{m n b c c':Nat}{D:DataW Unit}{L O O' O1:List Th}{id:Int}{a a' a1:Option Addr}{F:Nat->Prop}
theorem si.Pt(h:si t):ic t.2:=⟨by have:=h.2.1;omega,h.2.2⟩
theorem look_in(ho:W.ownsMap prog 3 oA m n D)(hM:MapOf oV D L)(hG:gA L)(ht:t∈L):
 (Instr.lookup 233 (.map (some m)) (.int .i64 t.2) true).run prog W=.ok (.tuple #[.agg #[.int .i64 t.1,.int .i64 t.2],.bool true]) W:=by
 obtain ⟨v,ps,h1,h2⟩:=ho.look_ok ng underlying233 (V9 W) (FJ (0,0)) (vX (hG.fit t ht).Pt);rw [hM.at' t ht]at h2;obtain ⟨s,rfl,e⟩:=Je h2;obtain rfl:=JN (Prod.mk.inj e).1;rw [h1,hM.has,rR.2 ⟨t,ht,rfl⟩];rfl
theorem look_out(ho:W.ownsMap prog 3 oA m n D)(hM:MapOf oV D L)(hf:ic id)(hs:isSet id L=false):
 (Instr.lookup 233 (.map (some m)) (.int .i64 id) true).run prog W=.ok (.tuple #[.agg #[.int .i64 0,.int .i64 0],.bool false]) W:=by
 obtain ⟨v,ps,h1,h2⟩:=ho.look_ok ng underlying233 (V9 W) (FJ (0,0)) (vX hf);rw [atKey_of_not_has (by rw [hM.has];exact hs)]at h2;obtain ⟨s,rfl,e⟩:=Je h2;obtain rfl:=JN (Prod.mk.inj e).1;rw [h1,hM.has,hs];rfl
theorem f_.Oh(h:f_ w b m a c L O)(ht:t∈L)(W:World)(hb:Below w.heap.size w W):(Instr.lookup 233 (.map (some m)) (.int .i64 t.2) true).run prog W=.ok (.tuple #[.agg #[.int .i64 t.1,.int .i64 t.2],.bool true]) W:=by
 obtain ⟨D,h1,h2⟩:=(h.below hb).map;exact look_in h1 h2 h.good ht
theorem f_.NR(h:f_ w b m a c L O)(hf:ic id)(hs:isSet id L=false)(W:World)(hb:Below w.heap.size w W):(Instr.lookup 233 (.map (some m)) (.int .i64 id) true).run prog W=.ok (.tuple #[.agg #[.int .i64 0,.int .i64 0],.bool false]) W:=by
 obtain ⟨D,h1,h2⟩:=(h.below hb).map;exact look_out h1 h2 hf hs
theorem f_.counts(h:f_ w b m a c L O)(ht:si t):
 ∃(n1 n2:Int) (is:Bool),(is&&(decide (n1=t.1)&&decide (n2=t.2)))=decide (t∈L)/\∀W:World,Below w.heap.size w W->(Instr.lookup 233 (.map (some m)) (.int .i64 t.2) true).run prog W=.ok (.tuple #[.agg #[.int .i64 n1,.int .i64 n2],.bool is]) W:=by
 cases hs:isSet t.2 L with
 |true=>
  obtain ⟨s,EH,e⟩:=rR.1 hs;refine ⟨s.1,s.2,true, ?_,fun W hb=>by rw [<-e];exact h.Oh EH W hb⟩;by_cases aJ:s=t
  ·subst aJ;simp [EH]
  ·have h1:¬t∈L:=fun A_=>aJ (h.good.uniq EH A_ e)
   have h2:¬s.1=t.1:=fun e1=>aJ (Prod.ext e1 e)
   simp [h1,h2]
 |false=>
  refine ⟨0,0,false, ?_,fun W hb=>h.NR ht.Pt hs W hb⟩;have h1:¬t∈L:=fun A_=>by
   have:=rR.2 ⟨t,A_,rfl⟩;rw [hs]at this
   cases this
  simp [h1]
theorem FE(h:f_ w b m a c L O)(ht:si t)(B:Bool)(hB:B=decide (t∈L)):
 Calls prog 180 #[.pointer (some ⟨b,0,none⟩),.agg #[.int .i64 t.1,.int .i64 t.2]] w fun e w'=>e=.returned (.bool B)/\Below w.heap.size w w':=by
 obtain ⟨n1,n2,is,hc,iL⟩:=h.counts ht;rw [<-hB]at hc;have c0:=h.hp.c0;have cQ:=h.hp.blt;obtain ⟨t1,t2⟩:=t;simp only at hc iL⊢;clear h ht hB;go_enter func180,ntmps180;go_upto_region 1 with fail;obtain ⟨w0,iv⟩:=Haa (w.alloc (.cells #[.int .i64 t1,.int .i64 t2] 249));have yU:Below w.heap.size w w0:=by rw [<-iv.out];exact aA w _
 have x0:w0.cell? ⟨w.heap.size,0,none⟩=some (.int .i64 t1):=by rw [<-iv.out];simp
 have x1:w0.cell? ⟨w.heap.size,1,none⟩=some (.int .i64 t2):=by rw [<-iv.out];simp
 have x2:w0.cell? ⟨b,0,none⟩=some (.map (some m)):=(yU.cell (p:=⟨b,0,none⟩) cQ).trans c0;have bC:w.heap.size<w0.heap.size:=by rw [<-iv.out];simp
 rw [iv.out];obtain ⟨G,hG⟩:=Haa w.heap.size;rw [hG.out]at x0 x1 bC⊢;have yQ:=iL w0.drew yU.drew;have bA:=aA w0 (.cells #[.int .i64 0,.int .i64 0] 249);have lT:=iL (w0.alloc (.cells #[.int .i64 0,.int .i64 0] 249)).drew (Below.trans yU (bA.mono yU.size)).drew;have y0:(w0.alloc (.cells #[.int .i64 0,.int .i64 0] 249)).cell? ⟨G,0,none⟩=some (.int .i64 t1):=(bA.cell (p:=⟨G,0,none⟩) bC).trans x0;have y1:(w0.alloc (.cells #[.int .i64 0,.int .i64 0] 249)).cell? ⟨G,1,none⟩=some (.int .i64 t2):=(bA.cell (p:=⟨G,1,none⟩) bC).trans x1;have y2:(w0.alloc (.cells #[.int .i64 0,.int .i64 0] 249)).cell? ⟨b,0,none⟩=some (.map (some m)):=(bA.cell (p:=⟨b,0,none⟩) (by show b<w0.heap.size;rw [hG.out]at cQ;omega)).trans x2;have HB:=hd yU;clear iv yU c0 iL bA;have HE:Hid (∀W:World,Below w0.heap.size w0 W->Below w.heap.size w W):=hd (fun W h=>HB.out.trans (h.mono (by rw [hG.out];exact Nat.le_of_lt bC)));have bF:Below w0.heap.size w0 (w0.alloc (.cells #[.int .i64 n1,.int .i64 n2] 249)).drew:=(aA w0 _).drew;have z0:(w0.alloc (.cells #[.int .i64 n1,.int .i64 n2] 249)).cell? ⟨G,0,none⟩=some (.int .i64 t1):=(bF.cell (p:=⟨G,0,none⟩) bC).trans x0;have z1:(w0.alloc (.cells #[.int .i64 n1,.int .i64 n2] 249)).cell? ⟨G,1,none⟩=some (.int .i64 t2):=(bF.cell (p:=⟨G,1,none⟩) bC).trans x1;have HF:=hd bF;clear bF HB
 cases is with
 |false=>
  obtain rfl:B=false:=by rw [<-hc];rfl
  clear hc;go_region;all_goals go_wp2_with fail
  all_goals go_ret
  all_goals exact ⟨rfl,HE.out _ HF.out⟩
 |true=>
  by_cases e1:n1=t1
  ·by_cases e2:n2=t2
   ·obtain rfl:B=true:=by rw [<-hc];simp [e1,e2]
    subst e1 e2;clear hc;go_region;all_goals go_wp2_with fail
    all_goals go_ret
    all_goals exact ⟨rfl,HE.out _ HF.out⟩
   ·obtain rfl:B=false:=by rw [<-hc];simp [e2]
    have e2':(n2==t2)=false:=by simpa using e2
    subst e1;clear hc e2;go_region;all_goals go_wp2_with fail
    all_goals go_ret
    all_goals exact ⟨rfl,HE.out _ HF.out⟩
  ·obtain rfl:B=false:=by rw [<-hc];simp [e1]
   have YN:(n1==t1)=false:=by simpa using e1
   clear hc e1;go_region;all_goals go_wp2_with fail
   all_goals go_ret
   all_goals exact ⟨rfl,HE.out _ HF.out⟩
structure mG(w:World)(b m:Nat)(a:Option Addr)(w':World)(a':Option Addr)(c':Nat)(L O':List Th):Prop where
 at':f_ w' b m a' c' L O'
 mod:Mod (fun k=>k=b\/ae a=some k) w w'
 new:∀k,ae a'=some k->ae a=some k\/w.heap.size<=k
theorem mG.refl(h:f_ w b m a c L O):mG w b m a w a c L O:=⟨h,Mod.refl _ _,fun _ h=> .inl h⟩
theorem mG.hpTo(h:mG w b m a w' a' c' L O'):jE w b m a w' a' c' O':=⟨h.at'.hp,h.mod,h.new⟩
theorem mG.order{a2:Option Addr}{c1 c2:Nat}{O2:List Th}(h:mG w b m a w1 a1 c1 L O1)(hT:jE w1 b m a1 w2 a2 c2 O2)(hh:gF (ay O2) O2.length)(aY:∀t∈L,t∈O2)(gU:∀t∈O2,si t):mG w b m a w2 a2 c2 L O2:=
 have ht:=h.hpTo.trans hT
 ⟨h.at'.order hT hh aY gU,ht.mod,ht.new⟩
theorem mG.below{c1:Nat}(h:mG w b m a w1 a1 c1 L O1)(hb:Below w1.heap.size w1 w2):mG w b m a w2 a1 c1 L O1:=⟨h.at'.below hb,h.mod.after hb,h.new⟩
theorem f_.anew{ys:List Th}(h:f_ w b m a c L O)(hb:Below w.heap.size w w1)(hA:Cl L ys)(hR:Row w1 249 2 a' ys.length c' (wC ys))(hn:∀k,ae a'=some k->w.heap.size<=k)(hh:gF (ay ys) ys.length):
 mG w b m a (w1.setCell ⟨b,1,none⟩ (.slice a' ys.length c')) a' c' L ys:=by
 have h1:=h.below hb;have bC:∀k,ae a'=some k->k≠b:=fun k hk=>by have:=hn k hk;have:=h.hp.blt;omega
 obtain ⟨D,m1,m2⟩:=h1.map;refine ⟨⟨fU.lay h1.hp.obj hR rfl bC,⟨D,DK m1 (aay _ _ _ _ h.mb),m2⟩,h.mb,fun e=> ?_,h.good,hh,fun t ht=>(hA.2 t).2 ht,fun t ht=>h.good.fit t ((hA.2 t).1 ht)⟩,(Mod.aS _ hb).setCell (.inl (.inl rfl)) _,fun k hk=> .inr (hn k hk)⟩;have:=hn m e;have:=h.mlt;omega
def JO(w:World)(b m:Nat)(a:Option Addr)(L:List Th)(w':World):Prop:=
 ∃a' c' O',mG w b m a w' a' c' L O'/\(0<O'.length->ay O' 0∈L)/\O'.length<=2*L.length
theorem Np(h:f_ w b m a c L O)(hL:L.length<=4398046511104):
 Calls prog 143 #[.pointer (some ⟨b,0,none⟩)] w fun e w'=>e=.returned (.tuple #[])/\JO w b m a L w':=by
 have c0:=h.hp.c0;have c1:=h.hp.c1;have f1:=h.hp.free 1;have HH:=hd h;obtain ⟨nO,xz⟩:=Haa O.length;obtain ⟨nL,Ba⟩:=Haa L.length;rw [xz.out]at c1;rw [Ba.out]at hL;have hlen:∀(W:World) ty,Below w.heap.size w W->(Builtin.len_ #[233] ty #[.map (some m)]).run prog W=.ok (.int .i64 (nL:Int)) W:=fun W ty hb=>by
  obtain ⟨D,m1,m2⟩:=(h.below hb).map;rw [m1.len underlying233 ty,m2.size,Ba.out]
 have lT:=fun n ty=>hlen (w.drewN n) ty (below_drewN (aak _ w) n)
 clear h hlen;obtain ⟨B,hB⟩:∃B:Bool,Hid (decide ((2:Int)*(nL:Int)<(nO:Int))=B):=⟨_,rfl⟩;have wR:=hB.out;go_enter func143,ntmps143;go_wp2_with fail;go_quiet (fail)
 go_upto_if 13 with fail;obtain ⟨wq,eU⟩:=Haa (w.drewN nq);have aX:Hid (Below w.heap.size w wq):=hd (by rw [<-eU.out];exact below_drewN (aak _ w) nq);have c0q:wq.cell? ⟨b,0,none⟩=some (.map (some m)):=(aX.out.cell (p:=⟨b,0,none⟩) HH.out.hp.blt).trans c0;have HQ:=hd (HH.out.below aX.out);have HZ:Hid (wq.heap.size=w.heap.size):=hd (by rw [<-eU.out];rfl);rw [eU.out];clear eU c0 c1 f1 lT wR;go_cut [14] (fun v14 wy=>Hid (∃a' c' O',mG w b m a wy a' c' L O'/\O'.length<=2*L.length))
 case first=>
  cases B with
  |true=>
   have hv:=@values_any m wq;have bV:=aA wq (.cells #[.map (some m)] 233);have hS:Calls prog 177 #[.func (.func 209) #[] #[.pointer (some ⟨wq.heap.size,0,none⟩)],.func (.func 179) #[] #[]] (wq.alloc (.cells #[.map (some m)] 233)) (MY (wq.alloc (.cells #[.map (some m)] 233)) L):=by
    obtain ⟨D,m1,m2⟩:=(HQ.out.below bV).map;exact sorted_any (by simp) (by simp) m1 m2 HQ.out.good (by rw [Ba.out];omega)
   have HK:Hid (∀(w2:World) (ys:List Th) (a':Option Addr) (c':Nat),Cl L ys->Row w2 249 2 a' ys.length c' (wC ys)->(∀k,ae a'=some k->(wq.alloc (.cells #[.map (some m)] 233)).heap.size<=k)->gF (ay ys) ys.length->Below (wq.alloc (.cells #[.map (some m)] 233)).heap.size (wq.alloc (.cells #[.map (some m)] 233)) w2->
    w2.cell? ⟨b,1,none⟩=some (.slice a nO c)/\w2.frozen? ⟨b,1,none⟩=false/\∃QO c'' O',mG w b m a (w2.setCell ⟨b,1,none⟩ (.slice a' ys.length c')) QO c'' L O'/\O'.length<=2*L.length):=hd (fun w2 ys a' c' h1 h2 h3 h4 h5=>by
    have bb:Below w.heap.size w w2:=aX.out.trans (Below.mono (bV.trans (h5.mono bV.size)) aX.out.size);have dX:=HH.out.below bb
    refine ⟨by have:=dX.hp.c1;rwa [xz.out]at this,dX.hp.free 1,a',c',ys,HH.out.anew bb h1 h2 (fun k hk=>by have:=h3 k hk;have:=bV.size;have:=HZ.out;omega) h4,by rw [h1.1];omega⟩)
   clear HQ bV
   go_wp2_with (first
    |(go_at_call 178;refine hv.mono ?_;rintro e1 w1 ⟨rfl,rfl⟩)
    |(go_at_call 177;refine hS.mono ?_;rintro e2 w2 ⟨ys,a',c',rfl,h1,h2,h3,h4,h5⟩;obtain ⟨k1,k2,k3⟩:=HK.out w2 ys a' c' h1 h2 h3 h4 h5;clear h1 h2 h3 h4 h5;have k3:=hd k3))
   go_meet
   case rel=>exact hd k3.out
  |false=>
   have HK:Hid (∃QO c'' O',mG w b m a wq QO c'' L O'/\O'.length<=2*L.length):=hd ⟨a,c,O,(mG.refl HH.out).below aX.out,by have:=hB.out;simp at this;rw [xz.out,Ba.out];omega⟩;clear HQ;go_wp2_with fail;go_meet
   case rel=>exact hd HK.out
 case rest=>
  clear HQ c0q HZ aX hB;obtain ⟨a1,c1,O1,bS,lT⟩:=hcut.out;have YO:=hd bS;have kZ:=hd lT;obtain ⟨n1,mo⟩:=Haa O1.length;clear hcut bS lT;go_wp2_with fail;go_loopg [23] n1 (fun k _ wr=>Hid (∃a' c' O',mG w b m a wr a' c' L O'/\O'.length<=2*L.length/\O'.length=k))
  case atStart=>exact hd ⟨a1,c1,O1,YO.out,kZ.out,mo.out⟩
  case round=>
   obtain ⟨a2,c2,O2,gq,iK,mQ⟩:=hrel.out;clear hrel YO kZ;have k1:=gq.at'.hp.c1;rw [mQ]at k1;have nT:=hd gq;have uz:=hd iK;have fM:=hd mQ;clear gq iK mQ;by_cases h0:gk=0
   ·subst h0;have HE:Hid (JO w b m a L wr):=hd ⟨a2,c2,O2,nT.out,fun h=>by rw [fM.out]at h;omega,uz.out⟩;go_wp2_with fail;go_end0;exact ⟨rfl,HE.out⟩
   ·obtain ⟨n,hn⟩:∃n,gk=n+1:=⟨gk-1,by omega⟩;subst hn;have bI:=nT.out.at'.hp.row;obtain ⟨g,rfl,x0,x1⟩:=zS bI 0 (by rw [fM.out];omega);have Ea:ay O2 0∈O2:=zN (by rw [fM.out];omega);have gU:=nT.out.at'.fit _ Ea;have bH:n<8796093022208:=by have h1:=uz.out;have h2:=fM.out;have h3:=Ba.out;omega
    obtain ⟨t,ht⟩:=Haa (ay O2 0);rw [ht.out]at x0 x1 gU;simp only [Nat.zero_mul,Nat.zero_add]at x0 x1;clear Ea bI h0;by_cases hc:t∈L
    ·have xn:=FE nT.out.at' gU true (by simp [hc]);have HE:Hid (∀W:World,Below wr.heap.size wr W->JO w b m a L W):=hd (fun W hb=>⟨_,c2,O2,nT.out.below hb,fun _=>by rw [ht.out];exact hc,uz.out⟩);obtain ⟨t1,t2⟩:=t;simp only at x0 x1 xn;clear gU hc;go_wp2_with (first|(go_at_call 180;refine xn.mono ?_;rintro e1 w1 ⟨rfl,b1⟩));go_end0;exact ⟨rfl,HE.out _ b1⟩
    ·have xn:=FE nT.out.at' gU false (by simp [hc]);have Ex:∀W:World,Below wr.heap.size wr W->_:=fun W hb=>hpop_any (nT.out.at'.below hb).hp fM.out bH (by have:=nT.out.at'.heap;rwa [fM.out]at this)
     have HE:Hid (∀(w1 w2:World) (O3:List Th),Below wr.heap.size wr w1->jE w1 b m (some ⟨g,0,none⟩) w2 (some ⟨g,0,none⟩) c2 O3->gF (ay O3) n->O3.length=n->(∀x∈O3,x∈O2)->(∀x∈O2,x∈O3\/x=ay O2 0)->∃a' c' O',mG w b m a w2 a' c' L O'/\O'.length<=2*L.length/\O'.length=n):=hd (fun w1 w2 O3 hb h1 h2 h3 h4 h5=>by
      refine ⟨_,c2,O3,(nT.out.below hb).order h1 (by rw [h3];exact h2) (fun x hx=> ?_) (fun x hx=>nT.out.at'.fit x (h4 x hx)),by have:=uz.out;have:=fM.out;omega,h3⟩;rcases h5 x (nT.out.at'.all x hx)with h6|h6
      ·exact h6
      ·rw [ht.out]at h6;rw [h6]at hx
       exact absurd hx hc)
     obtain ⟨t1,t2⟩:=t;simp only at x0 x1 xn;clear gU hc
     go_wp2_with (first
      |(go_at_call 180;refine xn.mono ?_;rintro e1 w1 ⟨rfl,b1⟩)
      |(go_at_call 181;refine (Ex _ b1).mono ?_;rintro e2 w2 ⟨⟨v,rfl⟩,O3,h1,h2,h3,h4,h5⟩))
     go_roundg n
     case measure=>omega
     case rel=>exact hd (HE.out _ _ _ b1 h1 h2 h3 h4 h5)
def Wh(w:World)(b:Nat)(F:Nat->Prop)(L:List Th):Prop:=∃m a c O,f_ w b m a c L O/\(0<O.length->ay O 0∈L)/\O.length<=2*L.length/\(∀k,rC b m a k->F k)/\∀k,F k->k<w.heap.size
theorem Wh.mod{S:Nat->Prop}(h:Wh w b F L)(hm:Mod S w w')(hn:∀k,F k->¬S k):Wh w' b F L:=by
 obtain ⟨m,a,c,O,h1,h2,h3,h4,h5⟩:=h;exact ⟨m,a,c,O,h1.mod hm (fun k hk=>hn k (h4 k hk)),h2,h3,h4,fun k hk=>aam (h5 k hk) hm.size⟩
theorem Wh.below(h:Wh w b F L)(hb:Below w.heap.size w w'):Wh w' b F L:=h.mod (Mod.aS (fun _=>False) hb) (fun _ _ h=>h)
theorem Wh.lt(h:Wh w b F L):∀k,F k->k<w.heap.size:=by
 obtain ⟨m,a,c,O,h1,h2,h3,h4,h5⟩:=h;exact h5
theorem Wh.good(h:Wh w b F L):gA L:=by
 obtain ⟨m,a,c,O,h1,h2,h3,h4,h5⟩:=h;exact h1.good
def Cm(w:World)(b:Nat)(F:Nat->Prop)(L':List Th)(w':World):Prop:=Mod F w w'/\∃F',Wh w' b F' L'/\∀k,F' k->F k\/w.heap.size<=k
theorem Cm.mk'{L':List Th}(hF:∀k,rC b m a k->F k)(hm:Mod (rC b m a) w w')(hW:f_ w' b m a' c' L' O')(h1:0<O'.length->ay O' 0∈L')(h2:O'.length<=2*L'.length)(hn:∀k,ae a'=some k->ae a=some k\/w.heap.size<=k):Cm w b F L' w':=
 ⟨hm.mono (fun k _ hk=>hF k hk),rC b m a',⟨m,a',c',O',hW,h1,h2,fun _ h=>h,hW.lt⟩,fun k hk=>by
  rcases hk with rfl|rfl|hk
  ·exact .inl (hF _ (.inl rfl))
  ·exact .inl (hF _ (.inr (.inl rfl)))
  ·rcases hn k hk with h|h
   ·exact .inl (hF k (.inr (.inr h)))
   ·exact .inr h⟩
theorem zH{row:Option Nat}(h:w.grownBy w' row):Mod (fun k=>row=some k) w w':=⟨h.os,h.tape,h.output,h.size,fun k hk hn=>h.block k hk (fun e=>hn e.symm)⟩
theorem Uj:Calls prog 116 #[] w fun e w'=>∃b F,e=.returned (.pointer (some ⟨b,0,none⟩))/\Wh w' b F []/\(∀k,F k->w.heap.size<=k)/\Below w.heap.size w w':=by
 have fQ:(Instr.makeMap 233 none).run prog w=.ok (.map (some w.heap.size)) (w.alloc (.map #[] 0)):=rfl;go_enter func116,ntmps116
 go_wp2
 go_ret;have aH:=aA w (.map #[] 0);have aI:=aA (w.alloc (.map #[] 0)) (.cells #[.map (some w.heap.size),.slice none 0 0] 237);have hm:(w.alloc (.map #[] 0)).ownsMap prog 3 oA w.heap.size 0 (.map []:DataW Unit):=World.ownsMap_made w prog 3 oA;have Ai:=aae (w.alloc (.map #[] 0)) (.cells #[.map (some w.heap.size),.slice none 0 0] 237);have cD:(w.alloc (.map #[] 0)).heap.size=w.heap.size+1:=by simp
 rw [cD]at Ai;refine ⟨_,rC (w.heap.size+1) w.heap.size none,rfl,⟨w.heap.size,none,0,[],⟨⟨Ai,Row.nil,(fun k hk=>by cases hk)⟩,⟨_,hm.alloc _,MapOf.nil _⟩,by omega,(fun e=>by cases e),gA.nil,fun k h0 hk=>absurd hk (aao _),fun t ht=>absurd ht aaF,fun t ht=>absurd ht aaF⟩,fun h=>absurd h (aao _),aaq _,fun k hk=>hk,fun k hk=> ?_⟩,fun k hk=> ?_,aH.trans (aI.mono (by omega))⟩
 ·rcases hk with rfl|rfl|hk
  ·simp
  ·simp;omega
  ·cases hk
 ·rcases hk with rfl|rfl|hk
  ·omega
  ·exact aag _
  ·cases hk
theorem Uk(h:Wh w b F L)(hf:ic id):Calls prog 124 #[.pointer (some ⟨b,0,none⟩),.int .i64 id] w fun e w'=>e=.returned (.tuple #[.int .i64 (qP id L).1,.bool (qP id L).2])/\Below w.heap.size w w':=by
 obtain ⟨m,a,c,O,h,-,-,-,-⟩:=h;have c0:=h.hp.c0;have iL:∃n2,(Instr.lookup 233 (.map (some m)) (.int .i64 id) true).run prog w=.ok (.tuple #[.agg #[.int .i64 (qP id L).1,.int .i64 n2],.bool (qP id L).2]) w:=by
  cases hs:isSet id L with
  |true=>
   obtain ⟨t,ht,rfl⟩:=rR.1 hs;rw [MR h.good ht];exact ⟨_,h.Oh ht w (fk w)⟩
  |false=>
   rw [MT hs];exact ⟨_,h.NR hf hs w (fk w)⟩
 obtain ⟨n2,iL⟩:=iL;generalize (qP id L).1=r1 at*
 generalize (qP id L).2=r2 at*
 clear h hf;go_enter func124,ntmps124
 go_wp2
 go_ret2;exact ⟨rfl,aA w _⟩
theorem Wh.min(h:f_ w b m a c L O)(h1:0<O.length->ay O 0∈L)(h0:0<O.length):OG L (ay O 0):=
 ⟨h1 h0,fun x hx=>by
  obtain ⟨i,hi,e⟩:=JM (h.all x hx)
  rw [<-e]
  exact h.heap.root i hi⟩
theorem Wh.none(h:f_ w b m a c L O)(h0:O.length=0):L=[]:=by
 have:=aaN h0;subst this;exact abl.2 (fun x hx=>absurd (h.all x hx) aaF)
theorem f_.OJ(h:f_ w b m a c L O)(hm:Mod (fun k=>k=m) w w2):fU w2 b m a c O:=
 h.hp.mod hm (fun e=>h.mb e.symm) (fun k hk e=>h.ma (by rw [<-e];exact hk))
theorem TI(h:Wh w b F L){due:Int}(hf:si (due,id))(hL:L.length<4398046511104):
 Calls prog 119 #[.pointer (some ⟨b,0,none⟩),.int .i64 id,.int .i64 due] w fun e w'=>e=.returned (.int .i64 0)/\Cm w b F (mF id due L) w':=by
 have i0:decide (id<0)=false:=by simpa using hf.2.1
 have i1:decide (due<0)=false:=by simpa using hf.1.1
 have i2:0<=id:=hf.2.1;have i3:0<=due:=hf.1.1;obtain ⟨m,a,c,O,h,Pu,hlen,hF,-⟩:=h;have HW:=hd h;have qt:=hd hf;have hlenO:O.length<8796093022208:=by omega
 have hlenL:(mF id due L).length<=4398046511104:=by rw [NK h.good];split<;>omega
 clear h hf;go_enter func119,ntmps119;go_upto_region 4 with fail;obtain ⟨w1,aR⟩:=Haa (w.alloc (.cells #[.int .i64 due,.int .i64 id] 249));have dM:Below w.heap.size w w1:=by rw [<-aR.out];exact aA w _
 have x0:w1.cell? ⟨w.heap.size,0,none⟩=some (.int .i64 due):=by rw [<-aR.out];simp
 have x1:w1.cell? ⟨w.heap.size,1,none⟩=some (.int .i64 id):=by rw [<-aR.out];simp
 have bC:w.heap.size<w1.heap.size:=by rw [<-aR.out];simp
 rw [aR.out];have bS:=(HW.out.below dM).below ((aak _ w1).drew);have c0:w1.cell? ⟨b,0,none⟩=some (.map (some m)):=bS.hp.c0;obtain ⟨D,m1,m2⟩:=bS.map;obtain ⟨w2,fK,o2,t2⟩:=m1.store ng underlying233 (by unfold maxLen;omega) (vX (x:=id) ⟨by omega,qt.out.2.2⟩) (FJ (due,id));have fK:(Instr.mapUpdate 233 (.map (some m)) (.int .i64 id) (.agg #[.int .i64 due,.int .i64 id])).run prog w1.drew=.ok () w2:=fK;have jH:Mod (fun k=>k=m) w1.drew w2:=(zH t2.grown).mono (fun k _ e=>(aau e).symm);have sH:=bS.OJ jH;have qj:=DH o2;have yV:=m2.put bS.good id due;rw [yV.size]at qj;have hG:w.heap.size≠m:=by have:=HW.out.mlt;omega
 have y0:w2.cell? ⟨w.heap.size,0,none⟩=some (.int .i64 due):=(jH.cell (p:=⟨w.heap.size,0,none⟩) bC hG).trans x0;have y1:w2.cell? ⟨w.heap.size,1,none⟩=some (.int .i64 id):=(jH.cell (p:=⟨w.heap.size,1,none⟩) bC hG).trans x1;have d0:w2.cell? ⟨b,0,none⟩=some (.map (some m)):=sH.c0;have yX:=fun W (hb:Below w2.heap.size w2 W)=>hpush_any (sH.below hb) rfl hlenO HW.out.heap (due,id)
 have lS:Hid (Mod (rC b m a) w w2):=hd (((Mod.aS _ dM).after ((aak _ w1).drew)).trans jH (fun k hk=> .inl (.inr (.inl hk))));have G7:=hd qj;have YP:=hd yV;have tO:Hid (w.heap.size<=w2.heap.size):=hd (aai dM.size jH.size);clear o2 t2 jH qj yV m1 m2 sH bS dM aR;simp only at yX;go_region;go_upto_region 5 with fail;have YQ:=yX w2.drew ((aak _ w2).drew);obtain ⟨G,YR⟩:=Haa w.heap.size;rw [YR.out]at y0 y1⊢
 have YS:Hid (∀(w3:World) a' c' O',jE w2.drew b m a w3 a' c' O'->w3.cell? ⟨G,0,none⟩=some (.int .i64 due)/\w3.cell? ⟨G,1,none⟩=some (.int .i64 id)):=hd (fun w3 a' c' O' hT=>by
  have hl:G<w2.drew.heap.size:=aaj w2 _ y0;have hn:¬(G=b\/ae a=some G):=fun e=>by
   rw [<-YR.out]at e;rcases e with e|e
   · have:=HW.out.hp.blt;omega
   · have:=HW.out.hp.lt _ e;omega
  exact ⟨(hT.mod.cell (p:=⟨G,0,none⟩) hl hn).trans y0,(hT.mod.cell (p:=⟨G,1,none⟩) hl hn).trans y1⟩)
 have YT:Hid (∀(w3:World) a' c' O',jE w2.drew b m a w3 a' c' O'->gF (ay O') (O.length+1)->O'.length=O.length+1->(∀x,x∈O'↔x∈O\/x=(due,id))->f_ w3 b m a' c' (mF id due L) O'/\Mod (rC b m a) w w3/\∀k,ae a'=some k->ae a=some k\/w.heap.size<=k):=hd (fun w3 a' c' O' hT h1 h2 h3=>by
  have iJ:=G7.out;have jy:m<w2.drew.heap.size:=iJ.lt;have ub:¬(m=b\/ae a=some m):=fun e=>by
   rcases e with e|e
   · exact HW.out.mb e
   · exact HW.out.ma e
  refine ⟨⟨hT.hp,⟨_,DK iJ (hT.mod.block m jy ub),YP.out⟩,HW.out.mb,fun e=> ?_,HW.out.good.set qt.out,by rw [h2];exact h1,fun x hx=> ?_,fun x hx=> ?_⟩,(lS.out.after ((aak _ w2).drew)).trans hT.mod (fun k hk=> .inl ?_),fun k hk=> ?_⟩
  · rcases hT.new m e with h|h
    · exact HW.out.ma h
    · omega
  · rw [h3];unfold mF at hx;rcases aaX.1 hx with h|h
    · exact .inl (HW.out.all x (pK.1 h).1)
    · exact .inr (by simpa using h)
  · rcases (h3 x).1 hx with h|h
    · exact HW.out.fit x h
    · rw [h];exact qt.out
  · rcases hk with h|h
    · exact .inl h
    · exact .inr (.inr h)
  · rcases hT.new k hk with h|h
    · exact .inl h
    · exact .inr (aai tO.out h))
 clear yX fK c0 x0 x1 G7 YP lS hG tO d0;go_region_held3 (fun w'=>w'.cell? ⟨G,0,none⟩=some (.int .i64 due)/\w'.cell? ⟨G,1,none⟩=some (.int .i64 id)) (go_keep)
  (first
    |(go_at_call 142;refine YQ.mono ?_;rintro e3 w3 ⟨rfl,a3,c3,O3,hT,h1,h2,h3⟩
      obtain ⟨k0,k1⟩:=YS.out w3 a3 c3 O3 hT
      obtain ⟨kK,Bb,Az⟩:=YT.out w3 a3 c3 O3 hT h1 h2 h3
      clear hT h1 h2 h3))
 have EI:=Np kK hlenL;have Em:=hd Bb;have YU:=hd Az;have QE:=hd Bb.size;clear Bb Az kK YS YT YQ;go_wp2_with (first|(go_at_call 143;refine EI.mono ?_;rintro e4 w4 ⟨rfl,a4,c4,O4,mN,h5,h6⟩));go_ret;refine ⟨rfl,Cm.mk' hF (Em.out.trans mN.mod (fun k hk=> ?_)) mN.at' h5 h6 (fun k hk=> ?_)⟩
 · rcases hk with h|h
   · exact .inl (.inl h)
   · rcases YU.out k h with h'|h'
     · exact .inl (.inr (.inr h'))
     · exact .inr h'
 · rcases mN.new k hk with h|h
   · exact YU.out k h
   · exact .inr (aai QE.out h)
theorem clear_any(h:Wh w b F L)(hf:ic id)(hL:L.length<=4398046511104):
 Calls prog 167 #[.pointer (some ⟨b,0,none⟩),.int .i64 id] w fun e w'=>e=.returned (.bool (isSet id L))/\Cm w b F (jq id L) w':=by
 obtain ⟨m,a,c,O,h,Pu,hlen,hF,-⟩:=h;have c0:=h.hp.c0;have iL:∃n1 n2,(Instr.lookup 233 (.map (some m)) (.int .i64 id) true).run prog w=.ok (.tuple #[.agg #[.int .i64 n1,.int .i64 n2],.bool (isSet id L)]) w:=by
  cases hs:isSet id L with
  |true=>
   obtain ⟨t,ht,rfl⟩:=rR.1 hs;exact ⟨_,_,h.Oh ht w (fk w)⟩
  |false=>exact ⟨_,_,h.NR hf hs w (fk w)⟩
 obtain ⟨n1,n2,iL⟩:=iL;have YV:(jq id L).length<=L.length:=List.length_filter_le _ _;have HW:=hd h;have HK:=hd (vX hf);generalize isSet id L=B at*
 clear h hf;go_enter func167,ntmps167;go_upto_region 2 with fail;obtain ⟨w1,aR⟩:=Haa (w.alloc (.cells #[.int .i64 n1,.int .i64 n2] 249));have dM:Below w.heap.size w w1:=by rw [<-aR.out];exact aA w _
 rw [aR.out];have bS:=HW.out.below dM;have c1:w1.cell? ⟨b,0,none⟩=some (.map (some m)):=bS.hp.c0;obtain ⟨D,m1,m2⟩:=bS.map;have rD:∃w2,(∀ty,(Builtin.delete_ #[233,3] ty #[.map (some m),.int .i64 id]).run prog w1=.ok (.tuple #[]) w2)/\f_ w2 b m a c (jq id L) O/\Mod (fun k=>k=m) w1 w2:=by
  obtain ⟨w2,fK,o2,t2⟩:=m1.drop ng underlying233 HK.out 0;have jH:Mod (fun k=>k=m) w1 w2:=(zH t2.grown).mono (fun k _ e=>(aau e).symm);have qj:=DH o2;have yV:=m2.del bS.good id;rw [yV.size]at qj;exact ⟨w2,fun ty=>fK,⟨bS.OJ jH,⟨_,qj,yV⟩,bS.mb,bS.ma,bS.good.jq id,bS.heap,fun t ht=>bS.all t (pK.1 ht).1,bS.fit⟩,jH⟩
 obtain ⟨w2,fK,gq,jH⟩:=rD;have EI:=Np gq (by omega);have lS:Hid (Mod (rC b m a) w w2):=hd ((Mod.aS _ dM).trans jH (fun k hk=> .inl (.inr (.inl hk))));clear gq jH m1 m2 bS dM aR;go_wp2_with (first|(go_at_call 143;refine EI.mono ?_;rintro e4 w4 ⟨rfl,a4,c4,O4,mN,h5,h6⟩));go_ret;refine ⟨rfl,Cm.mk' hF (lS.out.trans mN.mod (fun k hk=> .inl ?_)) mN.at' h5 h6 (fun k hk=> ?_)⟩
 ·rcases hk with h|h
  ·exact .inl h
  ·exact .inr (.inr h)
 ·rcases mN.new k hk with h|h
  ·exact .inl h
  ·exact .inr (aai lS.out.size h)
def EJ(out:List Th):List Value:=iC (out.map (·.2))
theorem idC_app(o p:List Th):EJ (o++p)=EJ o++EJ p:=by simp [EJ,xR]
structure Cn(w:World)(b:Nat)(F:Nat->Prop)(now:Int)(L:List Th)(w':World)(out L':List Th)(a:Option Addr)(c:Nat):Prop where
 row:Row w' 3 1 a out.length c (EJ out)
 new:∀k,ae a=some k->w.heap.size<=k
 mod:Mod F w w'
 wh:∃F',Wh w' b F' L'/\(∀k,F' k->F k\/w.heap.size<=k)/\∀k,ae a=some k->¬F' k
def Oi(now:Int)(L out L1:List Th):Prop:=∀o L2,oI now L1 o L2->oI now L (out++o) L2
theorem wpop_any(h:Wh w b F L)(now:Int)(hL:L.length<=4398046511104):
 Calls prog 149 #[.pointer (some ⟨b,0,none⟩),.int .i64 now] w fun e w'=>∃out L' a c,e=.returned (.slice a out.length c)/\oI now L out L'/\Cn w b F now L w' out L' a c:=by
 have YW:Hid (Cn w b F now L w [] L none 0/\Oi now L [] L):=hd ⟨⟨Row.nil,(fun k hk=>by cases hk),Mod.refl _ _,⟨F,h,(fun k hk=>Or.inl hk),(fun k hk=>by cases hk)⟩⟩,fun o L2 h=>h⟩;clear h;obtain ⟨nL,Ba⟩:=Haa L.length;rw [Ba.out]at hL;go_enter func149,ntmps149;go_wp2_with fail;go_loopg [5] nL (fun k v5 wr=>∃n a c,v5=.slice a n c/\k+n<=nL/\Hid (∃out L1,out.length=n/\L1.length=k/\Cn w b F now L wr out L1 a c/\Oi now L out L1))
 case atStart=>exact ⟨0,none,0,rfl,by omega,hd ⟨[],L,rfl,Ba.out,YW.out⟩⟩
 case round=>
  obtain ⟨n,a,c,rfl,vl,HR⟩:=hrel;clear YW;obtain ⟨out,L1,ho,lT,hP,EK⟩:=HR.out;obtain ⟨F1,⟨m,a1,c1,O,hW,Pu,hlen,hF,hF9⟩,ux,hF2⟩:=hP.wh;obtain ⟨nO,xz⟩:=Haa O.length;have k1:=hW.hp.c1;have k0:=hW.hp.c0;rw [xz.out]at k1;by_cases h0:nO=0
  ·subst h0;have gM:L1=[]:=Wh.none hW xz.out;have HE:Hid (∃out L' a' c',Ending.returned (.slice a n c)=.returned (.slice a' out.length c')/\oI now L out L'/\Cn w b F now L wr out L' a' c'):=hd ⟨out,L1,a,c,by rw [ho],by have:=EK [] L1 (by rw [gM];exact oI.none);rwa [abD]at this,hP⟩;clear hW hP EK lT ho HR;go_wp2_with fail;go_ret;exact HE.out
  ·have Ab:0<nO:=by omega
   have nD:=Wh.min hW Pu (by rw [xz.out];exact Ab);obtain ⟨g,rfl,x0,x1⟩:=zS hW.hp.row 0 (by rw [xz.out];exact Ab);obtain ⟨t,ht⟩:=Haa (ay O 0);rw [ht.out]at x0 x1 nD;simp only [Nat.zero_mul,Nat.zero_add]at x0 x1;have hpos':(0:Int)<(nO:Int):=by omega
   clear h0;by_cases wI:t.1<=now
   ·have xu:n<maxLen:=by unfold maxLen;omega
    have uY:=hP.row;rw [ho]at uY;obtain ⟨a',c',w2,aO,R2,M2,B2⟩:=mX (T:=23) (e:=3) (z:=.int .i64 0) (size:=1) (bytes:=8) aaV Ck rfl uY xu (by omega) [.int .i64 t.2] rfl (by simp [Value.oneCell']);have aO:=hd aO;have Pv:∀k,rC b m (some ⟨g,0,none⟩) k->¬ae a=some k:=fun k hk e=>hF2 k e (hF k hk)
    have gq:=(hW.mod M2 Pv).below ((aak _ w2).drew);have y0:w2.cell? ⟨b,0,none⟩=some (.map (some m)):=gq.hp.c0;have y1:w2.cell? ⟨b,1,none⟩=some (.slice (some ⟨g,0,none⟩) nO c1):=by have:=gq.hp.c1;rw [xz.out]at this;exact this
    obtain ⟨g',e',z0,z1⟩:=zS gq.hp.row 0 (by rw [xz.out];exact Ab)
    cases e'
    rw [ht.out]at z0 z1;simp only [Nat.zero_mul,Nat.zero_add]at z0 z1;have z0:w2.cell? ⟨g,0,none⟩=some (.int .i64 t.1):=z0;have z1:w2.cell? ⟨g,1,none⟩=some (.int .i64 t.2):=z1;have rD:∃w3,(∀ty,(Builtin.delete_ #[233,3] ty #[.map (some m),.int .i64 t.2]).run prog w2.drew=.ok (.tuple #[]) w3)/\f_ w3 b m (some ⟨g,0,none⟩) c1 (jq t.2 L1) O/\Mod (fun k=>k=m) w2.drew w3:=by
     obtain ⟨D,m1,m2⟩:=gq.map;obtain ⟨w3,fK,o2,t2⟩:=m1.drop ng underlying233 (vX (hW.good.fit t nD.1).Pt) 0;have jH:Mod (fun k=>k=m) w2.drew w3:=(zH t2.grown).mono (fun k _ e=>(aau e).symm);have qj:=DH o2;have yV:=m2.del gq.good t.2;rw [yV.size]at qj;exact ⟨w3,fun ty=>fK,⟨gq.OJ jH,⟨_,qj,yV⟩,gq.mb,gq.ma,gq.good.jq t.2,gq.heap,fun t ht=>gq.all t (pK.1 ht).1,gq.fit⟩,jH⟩
    obtain ⟨w3,fK,kK,Bb⟩:=rD;have bZ:(jq t.2 L1).length+1=gk:=by rw [<-lT];exact NJ hW.good (rR.2 ⟨t,nD.1,rfl⟩)
    have EI:=Np kK (by omega);have v0:w3.cell? ⟨b,0,none⟩=some (.map (some m)):=kK.hp.c0
    have HE:Hid (∀(w4:World),JO w3 b m (some ⟨g,0,none⟩) (jq t.2 L1) w4->∃out' QP,out'.length=n+1/\QP.length=gk-1/\Cn w b F now L w4 out' QP a' c'/\Oi now L out' QP):=hd (fun w4 ⟨a4,c4,O4,mN,h5,h6⟩=>by
     have tO:w.heap.size<=w2.heap.size:=aai hP.mod.size M2.size;have vF:∀k,rC b m (some ⟨g,0,none⟩) k->F k\/w.heap.size<=k:=fun k hk=>ux k (hF k hk)
     have mr:Mod F w w3:=((hP.mod.trans M2 (fun k hk=> .inr (hP.new k hk))).after ((aak _ w2).drew)).trans Bb (fun k hk=>vF k (.inr (.inl hk)))
     have p_:Mod F w w4:=mr.trans mN.mod (fun k hk=>vF k (by
      rcases hk with h|h
      ·exact .inl h
      ·exact .inr (.inr h)))
     have GH:∀k,ae a'=some k->¬rC b m (some ⟨g,0,none⟩) k:=fun k hk hw=>by
      rcases B2 k hk with h|h
      ·exact Pv k hw h
      ·have:=hF9 k (hF k hw);omega
     have hra':Row w4 3 1 a' (n+1) c' (EJ out++[.int .i64 t.2]):=(((R2.below ((aak _ w2).drew)).mod Bb (fun k hk e=>GH k hk (.inr (.inl e)))).mod mN.mod (fun k hk e=>GH k hk (by
      rcases e with h|h
      ·exact .inl h
      ·exact .inr (.inr h))))
     refine ⟨out++[t],jq t.2 L1,by simp [ho],by omega,⟨?_,fun k hk=> ?_,p_,rC b m a4,⟨m,a4,c4,O4,mN.at',h5,h6,fun _ h=>h,mN.at'.lt⟩,fun k hk=> ?_,fun k hk hw=> ?_⟩,fun o L2 jX=> ?_⟩
     ·rw [idC_app];have:(out++[t]).length=n+1:=by simp [ho]
      rw [this];exact hra'
     ·rcases B2 k hk with h|h
      ·exact hP.new k h
      ·exact aai hP.mod.size h
     ·rcases hk with h|h|h
      ·exact vF k (.inl h)
      ·exact vF k (.inr (.inl h))
      ·rcases mN.new k h with h'|h'
       ·exact vF k (.inr (.inr h'))
       ·exact .inr (aai mr.size h')
     ·rcases hw with h|h|h
      ·exact GH k hk (.inl h)
      ·exact GH k hk (.inr (.inl h))
      ·rcases mN.new k h with h'|h'
       ·exact GH k hk (.inr (.inr h'))
       ·have h8:=R2.lt k hk;have h9:w2.heap.size<=w3.heap.size:=Bb.size;omega
     ·rw [aaQ]
      exact EK _ _ (oI.one nD wI jX))
    obtain ⟨t1,t2⟩:=t;simp only at x0 x1 z0 z1 wI aO fK HE EI bZ;clear hW hP EK lT ho HR nD gq kK Bb R2 M2 B2 Pv uY;go_upto_region 4 with(first|(at_builtin;refine dZ rfl _ _ _ rfl _ _ _ _ rfl rfl aO.out ?_));clear aO x0 x1 k0 k1;go_region;all_goals clear fK z0 z1 y0 y1
    all_goals go_wp2_with (first|(go_at_call 143;refine EI.mono ?_;rintro e4 w4 ⟨rfl,h4⟩))
    all_goals go_roundg (gk-1)
    all_goals first
     |(case measure=>omega)
     |(case rel=>exact ⟨n+1,a',c',rfl,by omega,hd (HE.out _ h4)⟩)
   ·have V_:now<t.1:=by omega
    have Le:decide (t.1<=now)=false:=by simpa using wI
    have HE:Hid (∃out L' a' c',Ending.returned (.slice a n c)=.returned (.slice a' out.length c')/\oI now L out L'/\Cn w b F now L wr out L' a' c'):=hd ⟨out,L1,a,c,by rw [ho],by have:=EK [] L1 (oI.late nD V_);rwa [abD]at this,hP⟩;obtain ⟨t1,t2⟩:=t;simp only at x0 x1 Le;clear hW hP EK lT ho HR nD wI V_;go_wp2_with fail;go_ret;exact HE.out
end Go.Proofs.YthopnfbjiifhhaaGreatDoor.aZ
