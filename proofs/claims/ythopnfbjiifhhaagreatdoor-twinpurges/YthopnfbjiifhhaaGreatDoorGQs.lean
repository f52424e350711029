/- Lists held against each other. -/
import Derived.Test.YthopnfbjiifhhaaGreatDoorGQd
set_option maxHeartbeats 4000000
set_option maxRecDepth 100000
namespace Go.Proofs.YthopnfbjiifhhaaGreatDoor
open Go.RowKit Go.Proofs.Tryz
variable{α:Type}
theorem Nw[BEq α][LawfulBEq α][Inhabited α](l m:List α)(h:l.length=m.length)(he:∀j,j<l.length->l.getD j default=m.getD j default):(l==m)=true:=by
 rw [beq_iff_eq];apply aaT;intro j;by_cases hj:j<l.length
 ·have:=he j hj;rw [aac,aac,aad hj,aad (by omega)]at this;rw [aad hj,aad (by omega)];simpa using this
 ·rw [aas (by omega),aas (by omega)]
theorem Nx[BEq α][LawfulBEq α][Inhabited α](l m:List α)(j:Nat)(he:l.getD j default≠m.getD j default):(l==m)=false:=by
 rw [abh];intro e;rw [e]at he;exact he rfl
theorem Ov[BEq α][LawfulBEq α](l m:List α)(h:l.length≠m.length):(l==m)=false:=by
 rw [abh];intro e;rw [e]at h;exact h rfl
theorem eqU_any(a b:Option Addr)(c1 c2:Nat)(l m:List Nat)(w:World)(h1:Rd w a (fJ l))(h2:Rd w b (fJ m))(hl:l.length<=9223372036854775807):
 Calls prog 24 #[.slice a l.length c1,.slice b m.length c2] w fun e w'=>e=.returned (.bool (l==m))/\∃n,w'=w.drewN n:=by
 obtain ⟨r,hr⟩:=Haa (l==m);rw [hr.out];by_cases hlen:l.length=m.length
 ·have H1:Hid (∀i,i<l.length->∃b o,a=some ⟨b,o,none⟩/\w.cell? ⟨b,o+i,none⟩=some (.int .u64 (((l.getD i 0):Nat):Int))):=hd (fun i hi=>h1 i _ (FY l i hi));have H2:Hid (∀i,i<l.length->∃x o,b=some ⟨x,o,none⟩/\w.cell? ⟨x,o+i,none⟩=some (.int .u64 (((m.getD i 0):Nat):Int))):=hd (fun i hi=>h2 i _ (FY m i (by omega)));have HR:Hid ((∀j,j<l.length->l.getD j 0=m.getD j 0)->r=true):=hd (fun h=>by rw [<-hr.out];exact Nw l m hlen h);have HN:Hid (∀j,l.getD j 0≠m.getD j 0->r=false):=hd (fun j h=>by rw [<-hr.out];exact Nx l m j h);rw [<-hlen];clear h1 h2 hr hlen;generalize l.length=len at*
  go_enter func24,ntmps24;go_wp2_with fail;go_loopg [5,13,14,15,16,17,18,19,20,21,22,23,24,25] len (fun g _ v13 _ _ _ _ _ _ _ _ _ _ _ _ wr=>∃(i n:Nat),i+g=len/\v13=.int .i64 (i:Int)/\wr=w.drewN n/\Hid (∀j,j<i->l.getD j 0=m.getD j 0))
  case atStart=>exact ⟨0,0,by omega,by go_num,rfl,hd (fun j hj=>by omega)⟩
  case round=>
   obtain ⟨i,n,hi,rfl,rfl,HA⟩:=hrel;by_cases h0:gk=0
   ·subst h0;have dH:decide ((i:Int)<(len:Int))=false:=by simp;omega
    have tQ:(len:Int)<=(i:Int):=by omega
    obtain rfl:r=true:=HR.out (fun j hj=>HA.out j (by omega));go_wp2_with fail;go_ret;exact ⟨rfl,n,rfl⟩
   ·have af:(i:Int)<(len:Int):=by omega
    obtain ⟨b1,o1,ea,x1⟩:=H1.out i (by omega);obtain ⟨b2,o2,eb,x2⟩:=H2.out i (by omega)
    have HS:Hid (l.getD i 0=m.getD i 0->∀j,j<i+1->l.getD j 0=m.getD j 0):=hd (fun he j hj=>by
     by_cases e:j=i
     ·rw [e];exact he
     ·exact HA.out j (by omega))
    have HF:=hd (HN.out i);clear HA H1 H2 HN HR;subst ea eb;generalize l.getD i 0=x at*
    generalize m.getD i 0=y at*
    by_cases he:x=y
    ·subst he;go_upto_region 6 with fail;go_quiet (fail)
     go_wp2_with fail;go_roundg (gk-1)
     case rel=>exact ⟨i+1,n+nq,by omega,by go_num,by first|rfl|rw [World.drewN_drewN],hd (HS.out (by trivial))⟩
     case measure=>omega
    ·obtain rfl:r=false:=HF.out he;have XY:(((x:Nat):Int)==((y:Nat):Int))=false:=by simp;omega
     clear HS HF he;go_upto_region 6 with fail;go_quiet (fail)
     go_wp2_with fail;go_ret;exact ⟨rfl,n+nq,by first|rfl|rw [World.drewN_drewN]⟩
 ·obtain rfl:r=false:=by rw [<-hr.out];exact Ov l m hlen
  have Wz:((l.length:Int)==(m.length:Int))=false:=by simp;omega
  clear h1 h2 hr hlen;generalize l.length=len at*
  generalize m.length=GQ at*
  go_enter func24,ntmps24;go_wp2_with fail;go_ret;exact ⟨rfl,0,rfl⟩
theorem eqI_any(a b:Option Addr)(c1 c2:Nat)(l m:List Int)(w:World)(h1:Rd w a (iC l))(h2:Rd w b (iC m))(hl:l.length<=9223372036854775807):
 Calls prog 25 #[.slice a l.length c1,.slice b m.length c2] w fun e w'=>e=.returned (.bool (l==m))/\∃n,w'=w.drewN n:=by
 obtain ⟨r,hr⟩:=Haa (l==m);rw [hr.out];by_cases hlen:l.length=m.length
 ·have H1:Hid (∀i,i<l.length->∃b o,a=some ⟨b,o,none⟩/\w.cell? ⟨b,o+i,none⟩=some (.int .i64 (l.getD i 0))):=hd (fun i hi=>h1 i _ (rW l i hi));have H2:Hid (∀i,i<l.length->∃x o,b=some ⟨x,o,none⟩/\w.cell? ⟨x,o+i,none⟩=some (.int .i64 (m.getD i 0))):=hd (fun i hi=>h2 i _ (rW m i (by omega)));have HR:Hid ((∀j,j<l.length->l.getD j 0=m.getD j 0)->r=true):=hd (fun h=>by rw [<-hr.out];exact Nw l m hlen h);have HN:Hid (∀j,l.getD j 0≠m.getD j 0->r=false):=hd (fun j h=>by rw [<-hr.out];exact Nx l m j h);rw [<-hlen];clear h1 h2 hr hlen;generalize l.length=len at*
  go_enter func25,ntmps25;go_wp2_with fail;go_loopg [5,13,14,15,16,17,18,19,20,21,22,23,24,25] len (fun g _ v13 _ _ _ _ _ _ _ _ _ _ _ _ wr=>∃(i n:Nat),i+g=len/\v13=.int .i64 (i:Int)/\wr=w.drewN n/\Hid (∀j,j<i->l.getD j 0=m.getD j 0))
  case atStart=>exact ⟨0,0,by omega,by go_num,rfl,hd (fun j hj=>by omega)⟩
  case round=>
   obtain ⟨i,n,hi,rfl,rfl,HA⟩:=hrel;by_cases h0:gk=0
   ·subst h0;have dH:decide ((i:Int)<(len:Int))=false:=by simp;omega
    have tQ:(len:Int)<=(i:Int):=by omega
    obtain rfl:r=true:=HR.out (fun j hj=>HA.out j (by omega));go_wp2_with fail;go_ret;exact ⟨rfl,n,rfl⟩
   ·have af:(i:Int)<(len:Int):=by omega
    obtain ⟨b1,o1,ea,x1⟩:=H1.out i (by omega);obtain ⟨b2,o2,eb,x2⟩:=H2.out i (by omega)
    have HS:Hid (l.getD i 0=m.getD i 0->∀j,j<i+1->l.getD j 0=m.getD j 0):=hd (fun he j hj=>by
     by_cases e:j=i
     ·rw [e];exact he
     ·exact HA.out j (by omega))
    have HF:=hd (HN.out i);clear HA H1 H2 HN HR;subst ea eb;generalize l.getD i 0=x at*
    generalize m.getD i 0=y at*
    by_cases he:x=y
    ·subst he;go_upto_region 6 with fail;go_quiet (fail)
     go_wp2_with fail;go_roundg (gk-1)
     case rel=>exact ⟨i+1,n+nq,by omega,by go_num,by first|rfl|rw [World.drewN_drewN],hd (HS.out (by trivial))⟩
     case measure=>omega
    ·obtain rfl:r=false:=HF.out he;have XY:(x==y)=false:=by simp;omega
     clear HS HF he;go_upto_region 6 with fail;go_quiet (fail)
     go_wp2_with fail;go_ret;exact ⟨rfl,n+nq,by first|rfl|rw [World.drewN_drewN]⟩
 ·obtain rfl:r=false:=by rw [<-hr.out];exact Ov l m hlen
  have Wz:((l.length:Int)==(m.length:Int))=false:=by simp;omega
  clear h1 h2 hr hlen;generalize l.length=len at*
  generalize m.length=GQ at*
  go_enter func25,ntmps25;go_wp2_with fail;go_ret;exact ⟨rfl,0,rfl⟩
structure cG(w:World)where
 val:World
 au:Below w.heap.size w val
theorem DE{P:Program}{id:Nat}{Q:Exit->Act->World->Prop}{a:Act}{w:World}{l:List Oper}(f:α->World)(hm:P.follows .mixedOrders=true)(hB:Region.lexB .any l.toArray=true)
 (p0:α)(h0:f p0=w.drew)(h:wpQuiet P l.toArray (fun w'=>∃p,w'=f p) (fun a'=>∀w',(∃p,w'=f p)->Q .normal a' w') l a):(Code.region id l.toArray true).wp P Q a w:=
 wp_region_quiet (C:=fun w'=>∃p,w'=f p) hm hB ⟨p0,h0.symm⟩ (by simpa using h)
def parts(l:List Pr):List Int:=l.map Pr.part
theorem FM(l:List Pr):(parts l).length=l.length:=by simp [parts]
theorem Uw(l:List Pr)(i:Nat)(_h:i<l.length):(parts l).getD i 0=(l.getD i default).part:=by
 simp only [parts,List.getD_eq_getElem?_getD,List.getElem?_map]
 cases l[i]?<;>rfl
theorem skel1_any(p q:Int)(v u:Value)(w:World):
 Calls prog 28 #[.agg #[.int .i64 p,v],.agg #[.int .i64 q,u]] w fun e w'=>e=.returned (.bool (p==q))/\Below w.heap.size w w':=by
 have HB:Hid (∀o1 o2,Below w.heap.size w ((w.alloc o1).alloc o2)):=hd (fun o1 o2=>((aak _ w).alloc (aag _) _).alloc (by simp) _);go_enter func28,ntmps28;go_wp2_with fail;go_ret;exact ⟨rfl,HB.out _ _⟩
theorem eqF_any(a b:Option Addr)(c1 c2:Nat)(l m:List jl)(w:World)(h1:Rd w a (jw l))(h2:Rd w b (jw m))(hl:l.length<=9223372036854775807):
 Calls prog 27 #[.slice a l.length c1,.slice b m.length c2,.func (.func 28) #[] #[]] w fun e w'=>e=.returned (.bool (parts (dD l)==parts (dD m)))/\Below w.heap.size w w':=by
 obtain ⟨r,hr⟩:=Haa (parts (dD l)==parts (dD m));rw [hr.out];have aX:=hd (fk w);by_cases hlen:l.length=m.length
 ·have H1:Hid (∀i,i<l.length->∃b o,a=some ⟨b,o,none⟩/\∀W,Below w.heap.size w W->W.cell? ⟨b,o+i*2,none⟩=some (.int .i64 (l.getD i default).p.part)/\W.cell? ⟨b,o+i*2+1,none⟩=some (.slice (l.getD i default).a (l.getD i default).p.code.length (l.getD i default).c)):=hd (fun i hi=>by
   obtain ⟨b,o,e,x0⟩:=h1 _ _ (oy l i hi).1;obtain ⟨b',o',e',x1⟩:=h1 _ _ (oy l i hi).2;rw [e]at e'
   cases e'
   refine ⟨b,o,e,fun W hW=>⟨(hW.cell (p:=⟨b,o+i*2,none⟩) (aaj w _ x0)).trans x0, ?_⟩⟩;rw [show o+i*2+1=o+(i*2+1) by omega]
   exact (hW.cell (p:=⟨b,o+(i*2+1),none⟩) (aaj w _ x1)).trans x1)
  have H2:Hid (∀i,i<l.length->∃x o,b=some ⟨x,o,none⟩/\∀W,Below w.heap.size w W->W.cell? ⟨x,o+i*2,none⟩=some (.int .i64 (m.getD i default).p.part)/\W.cell? ⟨x,o+i*2+1,none⟩=some (.slice (m.getD i default).a (m.getD i default).p.code.length (m.getD i default).c)):=hd (fun i hi=>by
   obtain ⟨x,o,e,x0⟩:=h2 _ _ (oy m i (by omega)).1;obtain ⟨b',o',e',x1⟩:=h2 _ _ (oy m i (by omega)).2;rw [e]at e'
   cases e'
   refine ⟨x,o,e,fun W hW=>⟨(hW.cell (p:=⟨x,o+i*2,none⟩) (aaj w _ x0)).trans x0, ?_⟩⟩;rw [show o+i*2+1=o+(i*2+1) by omega]
   exact (hW.cell (p:=⟨x,o+(i*2+1),none⟩) (aaj w _ x1)).trans x1)
  have HP:Hid (∀i,i<l.length->(parts (dD l)).getD i 0=(l.getD i default).p.part/\(parts (dD m)).getD i 0=(m.getD i default).p.part):=hd (fun i hi=>by
   rw [Uw _ _ (by rw [mY];exact hi),Uw _ _ (by rw [mY];omega)];simp only [dD,List.getD_eq_getElem?_getD,List.getElem?_map];rw [aad hi,aad (show i<m.length by omega)]
   exact ⟨rfl,rfl⟩)
  have HR:Hid ((∀j,j<l.length->(l.getD j default).p.part=(m.getD j default).p.part)->r=true):=hd (fun h=>by
   rw [<-hr.out];refine Nw _ _ (by rw [FM,FM,mY,mY];exact hlen) (fun j hj=> ?_);rw [FM,mY]at hj;show(parts (dD l)).getD j 0=(parts (dD m)).getD j 0;rw [(HP.out j hj).1,(HP.out j hj).2]
   exact h j hj)
  have HN:Hid (∀j,j<l.length->(l.getD j default).p.part≠(m.getD j default).p.part->r=false):=hd (fun j hj h=>by
   rw [<-hr.out];refine Nx _ _ j ?_;show(parts (dD l)).getD j 0≠(parts (dD m)).getD j 0;rw [(HP.out j hj).1,(HP.out j hj).2]
   exact h)
  rw [<-hlen];clear h1 h2 hr hlen HP;generalize l.length=len at*
  go_enter func27,ntmps27;go_wp2_with fail;go_loopg [7,8,9,17,18,19,20,21,22,23,24,25,26,27,28,29,30,31] len (fun g _ _ _ v17 _ _ _ _ _ _ _ _ _ _ _ _ _ _ wr=>∃(i:Nat),i+g=len/\v17=.int .i64 (i:Int)/\Hid (Below w.heap.size w wr)/\Hid (∀j,j<i->(l.getD j default).p.part=(m.getD j default).p.part))
  case atStart=>exact ⟨0,by omega,by go_num,aX,hd (fun j hj=>by omega)⟩
  case round=>
   clear aX;obtain ⟨i,hi,rfl,HB,HA⟩:=hrel;by_cases h0:gk=0
   ·subst h0;have dH:decide ((i:Int)<(len:Int))=false:=by simp;omega
    have tQ:(len:Int)<=(i:Int):=by omega
    obtain rfl:r=true:=HR.out (fun j hj=>HA.out j (by omega));go_wp2_with fail;go_ret;exact ⟨rfl,HB.out⟩
   ·have af:(i:Int)<(len:Int):=by omega
    obtain ⟨b1,o1,ea,X1⟩:=H1.out i (by omega);obtain ⟨b2,o2,eb,X2⟩:=H2.out i (by omega)
    have HS:Hid ((l.getD i default).p.part=(m.getD i default).p.part->∀j,j<i+1->(l.getD j default).p.part=(m.getD j default).p.part):=hd (fun he j hj=>by
     by_cases e:j=i
     ·rw [e];exact he
     ·exact HA.out j (by omega))
    have HF:=hd (HN.out i (by omega));clear HA H1 H2 HN HR;subst ea eb;replace X1:=hd X1;replace X2:=hd X2;have HT:Hid (∀o1,Below w.heap.size w (wr.alloc o1)):=hd (fun o1=>HB.out.trans ((aA wr o1).mono HB.out.size));generalize (l.getD i default).p.part=p at*
    generalize (m.getD i default).p.part=q at*
    generalize (l.getD i default).a=ma at*
    generalize (l.getD i default).c=mc at*
    generalize (l.getD i default).p.code.length=mn at*
    generalize (m.getD i default).a=na at*
    generalize (m.getD i default).c=nc at*
    generalize (m.getD i default).p.code.length=nn at*
    obtain ⟨x0,x1⟩:=X1.out wr HB.out;go_upto_region 6 with fail;obtain ⟨wa,cW⟩:=Haa (wr.alloc (.cells #[.int .i64 p,.slice ma mn mc] 38));rw [cW.out];have ba:Hid (Below w.heap.size w wa):=hd (by rw [<-cW.out];exact HT.out _);have uA:Hid (wa.heap[wr.heap.size]?=some (.cells #[.int .i64 p,.slice ma mn mc] 38 (0,0))):=hd (by rw [<-cW.out];exact aae wr _);obtain ⟨B1,dM⟩:=Haa wr.heap.size;rw [dM.out]at uA⊢;obtain ⟨y0,y1⟩:=X2.out wa ba.out;clear cW dM x0 x1 HT;have bb:=hd (aA wa (.cells #[.int .i64 q,.slice na nn nc] 38));go_upto_region 7 with fail;obtain ⟨wb,Du⟩:=Haa (wa.alloc (.cells #[.int .i64 q,.slice na nn nc] 38));rw [Du.out]at bb⊢;have z0:=aaa wb B1 0 _ _ _ ((bb.out.block B1 (aab.1 uA.out).1).trans uA.out);have z1:=aaa wb B1 1 _ _ _ ((bb.out.block B1 (aab.1 uA.out).1).trans uA.out);have aI:wb.heap[wa.heap.size]?=some (.cells #[.int .i64 q,.slice na nn nc] 38 (0,0)):=by rw [<-Du.out];exact aae wa _
    have z2:=aaa wb wa.heap.size 0 _ _ _ aI;have z3:=aaa wb wa.heap.size 1 _ _ _ aI;simp at z0 z1 z2 z3;have Mi:=skel1_any p q (.slice ma mn mc) (.slice na nn nc) wb;replace bb:=hd (ba.out.trans (bb.out.mono ba.out.size));clear Du aI y0 y1 uA;by_cases he:p=q
    ·subst he;rw [show(p==p)=true by simp]at Mi;go_wp2_with (go_at_call 28;refine Mi.mono ?_;rintro e wc ⟨rfl,bc⟩;replace bc:=hd bc);go_roundg (gk-1)
     case rel=>exact ⟨i+1,by omega,by go_num,hd (bb.out.trans (bc.out.mono bb.out.size)),hd (HS.out (by trivial))⟩
     case measure=>omega
    ·obtain rfl:r=false:=HF.out he;rw [show(p==q)=false by simpa using he]at Mi;go_wp2_with (go_at_call 28;refine Mi.mono ?_;rintro e wc ⟨rfl,bc⟩;replace bc:=hd bc);go_ret;exact ⟨rfl,bb.out.trans (bc.out.mono bb.out.size)⟩
 ·obtain rfl:r=false:=by rw [<-hr.out];exact Ov _ _ (by rw [FM,FM,mY,mY];exact hlen)
  have Wz:((l.length:Int)==(m.length:Int))=false:=by simp;omega
  clear h1 h2 hr hlen;generalize l.length=len at*
  generalize m.length=GQ at*
  go_enter func27,ntmps27;go_wp2_with fail;go_ret;exact ⟨rfl,aX.out⟩
theorem info3s:(prog.info? 3).isSome=true:=by kernel_rfl
theorem cells3:prog.cellsOf 3=1:=by kernel_rfl
theorem FU(xs:Array Value)(i:Nat)(v:Int)(h:xs[i]?=some (.int .i64 v))(W:World):(part 3 xs i).run prog W=.ok (.int .i64 v) W:=by
 unfold part;simp [go_sem,h]
theorem SK(d:Nat)(xs ys:Array Value)(f g:Nat->Int)(W:World):∀is:List Nat,(∀i∈is,xs[i]?=some (.int .i64 (f i))/\ys[i]?=some (.int .i64 (g i)))->(Op.eqItems (d+1) 3 1 xs ys is).run prog W=.ok (is.all fun i=>f i==g i) W
 |[],_=>by simp [Op.eqItems]
 |i::is,h=>by
  have hv:=h i (by simp);have ih:=SK d xs ys f g W is (fun j hj=>h j (by simp [hj]));simp only [Op.eqItems,Sem.run_bind,Nat.mul_one,FU xs i _ hv.1,FU ys i _ hv.2,Result.andThen_ok,run_equalIn_int W d 3 .i64 .i64 _ _ underlying3];by_cases he:f i=g i
  ·simpa [he]using ih
  ·have:(f i==g i)=false:=by simpa using he
   simp [this]
theorem eq4(a0 a1 a2 a3 b0 b1 b2 b3:Int)(n:Nat)(W:World):
 (Op.equalIn (n+2) 61 (.agg #[.int .i64 a0,.int .i64 a1,.int .i64 a2,.int .i64 a3]) (.agg #[.int .i64 b0,.int .i64 b1,.int .i64 b2,.int .i64 b3])).run prog W=.ok (a0==b0&&a1==b1&&a2==b2&&a3==b3) W:=by
 obtain ⟨i,hi⟩:=Option.isSome_iff_exists.1 info3s;rw [run_equalIn_array W (n+1) _ _ underlying61 hi,cells3,SK n _ _ (fun i=>[a0,a1,a2,a3].getD i 0) (fun i=>[b0,b1,b2,b3].getD i 0) W _ (fun j hj=> ?_)]
 ·simp [List.range_succ,Bool.and_assoc]
 ·have fV:j<4:=abv.1 hj;have h:j=0\/j=1\/j=2\/j=3:=by omega
  rcases h with rfl|rfl|rfl|rfl<;>exact ⟨rfl,rfl⟩
def IW(c d:ak):Bool:=c.fuel==d.fuel&&c.lane==d.lane&&c.aF==d.aF&&c.log==d.log
def Mj(c d:ak):Bool:=(c.labels==d.labels)&&((c.table==d.table)&&(IW c d&&(parts c.procs==parts d.procs)))
theorem skel_any(c d:ak)(g h:Loc)(w:World)(hR:fD w c g)(hS:fD w d h)(hl:c.labels.length<=9223372036854775807/\c.table.length<=9223372036854775807/\c.procs.length<=9223372036854775807):
 Calls prog 13 #[ct c g,ct d h] w fun e w'=>e=.returned (.bool (Mj c d))/\Below w.heap.size w w':=by
 obtain ⟨r,hr⟩:=Haa (Mj c d);rw [hr.out];unfold ct a_;obtain ⟨w1,aR⟩:=Haa ((w.alloc (.cells #[.slice g.la c.labels.length g.lc,.slice g.ta c.table.length g.tc,.int .i64 c.fuel,.int .i64 c.lane,.int .i64 c.aF,.int .i64 c.log,.slice g.pa c.procs.length g.pc] 26)).alloc (.cells #[.slice h.la d.labels.length h.lc,.slice h.ta d.table.length h.tc,.int .i64 d.fuel,.int .i64 d.lane,.int .i64 d.aF,.int .i64 d.log,.slice h.pa d.procs.length h.pc] 26));have B1:Hid (Below w.heap.size w w1):=hd (by rw [<-aR.out];exact ((aak _ w).alloc (aag _) _).alloc (by simp) _);obtain ⟨G,hG⟩:=Haa w.heap.size;have HG:Hid (w1.heap[G]?=some (.cells #[.slice g.la c.labels.length g.lc,.slice g.ta c.table.length g.tc,.int .i64 c.fuel,.int .i64 c.lane,.int .i64 c.aF,.int .i64 c.log,.slice g.pa c.procs.length g.pc] 26 (0,0))):=hd (by rw [<-aR.out,<-hG.out,(aA _ _).block _ (by simp)];exact aae w _)
 have HH:Hid (w1.heap[G+1]?=some (.cells #[.slice h.la d.labels.length h.lc,.slice h.ta d.table.length h.tc,.int .i64 d.fuel,.int .i64 d.lane,.int .i64 d.aF,.int .i64 d.log,.slice h.pa d.procs.length h.pc] 26 (0,0))):=hd (by
  rw [<-aR.out,<-hG.out,show w.heap.size+1=(w.alloc (.cells #[.slice g.la c.labels.length g.lc,.slice g.ta c.table.length g.tc,.int .i64 c.fuel,.int .i64 c.lane,.int .i64 c.aF,.int .i64 c.log,.slice g.pa c.procs.length g.pc] 26)).heap.size by simp]
  exact aae _ _)
 have x0:∀p:cG w1,p.val.cell? ⟨G,0,none⟩=some (.slice g.la c.labels.length g.lc):=fun p=>aaa _ _ _ _ _ _ ((p.au.block G (aab.1 HG.out).1).trans HG.out)
 have y0:∀p:cG w1,p.val.cell? ⟨G+1,0,none⟩=some (.slice h.la d.labels.length h.lc):=fun p=>aaa _ _ _ _ _ _ ((p.au.block (G+1) (aab.1 HH.out).1).trans HH.out)
 have x1:∀p:cG w1,p.val.cell? ⟨G,1,none⟩=some (.slice g.ta c.table.length g.tc):=fun p=>aaa _ _ _ _ _ _ ((p.au.block G (aab.1 HG.out).1).trans HG.out)
 have y1:∀p:cG w1,p.val.cell? ⟨G+1,1,none⟩=some (.slice h.ta d.table.length h.tc):=fun p=>aaa _ _ _ _ _ _ ((p.au.block (G+1) (aab.1 HH.out).1).trans HH.out)
 have x2:∀p:cG w1,p.val.cell? ⟨G,2,none⟩=some (.int .i64 c.fuel):=fun p=>aaa _ _ _ _ _ _ ((p.au.block G (aab.1 HG.out).1).trans HG.out)
 have y2:∀p:cG w1,p.val.cell? ⟨G+1,2,none⟩=some (.int .i64 d.fuel):=fun p=>aaa _ _ _ _ _ _ ((p.au.block (G+1) (aab.1 HH.out).1).trans HH.out)
 have x3:∀p:cG w1,p.val.cell? ⟨G,3,none⟩=some (.int .i64 c.lane):=fun p=>aaa _ _ _ _ _ _ ((p.au.block G (aab.1 HG.out).1).trans HG.out)
 have y3:∀p:cG w1,p.val.cell? ⟨G+1,3,none⟩=some (.int .i64 d.lane):=fun p=>aaa _ _ _ _ _ _ ((p.au.block (G+1) (aab.1 HH.out).1).trans HH.out)
 have x4:∀p:cG w1,p.val.cell? ⟨G,4,none⟩=some (.int .i64 c.aF):=fun p=>aaa _ _ _ _ _ _ ((p.au.block G (aab.1 HG.out).1).trans HG.out)
 have y4:∀p:cG w1,p.val.cell? ⟨G+1,4,none⟩=some (.int .i64 d.aF):=fun p=>aaa _ _ _ _ _ _ ((p.au.block (G+1) (aab.1 HH.out).1).trans HH.out)
 have x5:∀p:cG w1,p.val.cell? ⟨G,5,none⟩=some (.int .i64 c.log):=fun p=>aaa _ _ _ _ _ _ ((p.au.block G (aab.1 HG.out).1).trans HG.out)
 have y5:∀p:cG w1,p.val.cell? ⟨G+1,5,none⟩=some (.int .i64 d.log):=fun p=>aaa _ _ _ _ _ _ ((p.au.block (G+1) (aab.1 HH.out).1).trans HH.out)
 have x6:∀p:cG w1,p.val.cell? ⟨G,6,none⟩=some (.slice g.pa c.procs.length g.pc):=fun p=>aaa _ _ _ _ _ _ ((p.au.block G (aab.1 HG.out).1).trans HG.out)
 have y6:∀p:cG w1,p.val.cell? ⟨G+1,6,none⟩=some (.slice h.pa d.procs.length h.pc):=fun p=>aaa _ _ _ _ _ _ ((p.au.block (G+1) (aab.1 HH.out).1).trans HH.out)
 have q1:∀p:cG w1,Calls prog 24 #[.slice g.la c.labels.length g.lc,.slice h.la d.labels.length h.lc] p.val fun e dR=>e=.returned (.bool (c.labels==d.labels))/\∃p':cG w1,dR=p'.val:=fun p=>
  (eqU_any g.la h.la g.lc h.lc c.labels d.labels p.val ((hR.pY.below B1.out).below p.au) ((hS.pY.below B1.out).below p.au) hl.1).mono fun e w' ⟨he,n,hw⟩=>⟨he,⟨w',by rw [hw];exact p.au.trans ((ck p.val n).mono p.au.size)⟩,rfl⟩
 have q2:∀p:cG w1,Calls prog 25 #[.slice g.ta c.table.length g.tc,.slice h.ta d.table.length h.tc] p.val fun e dR=>e=.returned (.bool (c.table==d.table))/\∃p':cG w1,dR=p'.val:=fun p=>
  (eqI_any g.ta h.ta g.tc h.tc c.table d.table p.val ((hR.qh.below B1.out).below p.au) ((hS.qh.below B1.out).below p.au) hl.2.1).mono fun e w' ⟨he,n,hw⟩=>⟨he,⟨w',by rw [hw];exact p.au.trans ((ck p.val n).mono p.au.size)⟩,rfl⟩
 have q3:∀p:cG w1,Calls prog 26 #[.agg #[.slice g.la c.labels.length g.lc,.slice g.ta c.table.length g.tc,.int .i64 c.fuel,.int .i64 c.lane,.int .i64 c.aF,.int .i64 c.log,.slice g.pa c.procs.length g.pc]] p.val fun e dR=>e=.returned (.agg #[.int .i64 c.fuel,.int .i64 c.lane,.int .i64 c.aF,.int .i64 c.log])/\∃p':cG w1,dR=p'.val:=fun p=>
  (Jz c g p.val).mono fun e w' ⟨he,hb⟩=>⟨he,⟨w',p.au.trans (hb.mono p.au.size)⟩,rfl⟩
 have q4:∀p:cG w1,Calls prog 26 #[.agg #[.slice h.la d.labels.length h.lc,.slice h.ta d.table.length h.tc,.int .i64 d.fuel,.int .i64 d.lane,.int .i64 d.aF,.int .i64 d.log,.slice h.pa d.procs.length h.pc]] p.val fun e dR=>e=.returned (.agg #[.int .i64 d.fuel,.int .i64 d.lane,.int .i64 d.aF,.int .i64 d.log])/\∃p':cG w1,dR=p'.val:=fun p=>
  (Jz d h p.val).mono fun e w' ⟨he,hb⟩=>⟨he,⟨w',p.au.trans (hb.mono p.au.size)⟩,rfl⟩
 have q5:∀p:cG w1,Calls prog 27 #[.slice g.pa c.procs.length g.pc,.slice h.pa d.procs.length h.pc,.func (.func 28) #[] #[]] p.val fun e dR=>e=.returned (.bool (parts c.procs==parts d.procs))/\∃p':cG w1,dR=p'.val:=fun p=>by
  have h1:=eqF_any g.pa h.pa g.pc h.pc g.ms h.ms p.val ((hR.oN.below B1.out).below p.au) ((hS.oN.below B1.out).below p.au) (by rw [hR.len];exact hl.2.2);rw [hR.len,hS.len,hR.ps,hS.ps]at h1;exact h1.mono fun e w' ⟨he,hb⟩=>⟨he,⟨w',p.au.trans (hb.mono p.au.size)⟩,rfl⟩
 have e4:∀W,(Op.equalIn 10000 61 (.agg #[.int .i64 c.fuel,.int .i64 c.lane,.int .i64 c.aF,.int .i64 c.log]) (.agg #[.int .i64 d.fuel,.int .i64 d.lane,.int .i64 d.aF,.int .i64 d.log])).run prog W=.ok (IW c d) W:=fun W=>eq4 _ _ _ _ _ _ _ _ 9998 W
 have HX:Hid (r=((c.labels==d.labels)&&((c.table==d.table)&&(IW c d&&(parts c.procs==parts d.procs))))):=hd hr.out.symm;have wT:Nonempty (cG w1):=⟨⟨w1,fk w1⟩⟩;clear hR hS hl HG HH hr;generalize (c.labels==d.labels)=b1 at*
 generalize (c.table==d.table)=b2 at*
 generalize IW c d=b3 at*
 generalize (parts c.procs==parts d.procs)=b4 at*
 go_enter func13,ntmps13;go_upto_region 1 with fail;rw [aR.out,hG.out]
 cases b1
 ·obtain rfl:r=false:=by rw [HX.out];rfl
  refine DE (α:=cG w1) cG.val (by kernel_rfl) (by kernel_rfl) ⟨w1.drew,ck w1 1⟩ rfl ?_;repeat(go_big_quiet_step (first|with_reducible exact q1 _|with_reducible exact q2 _|with_reducible exact q3 _|with_reducible exact q4 _|with_reducible exact q5 _))
  refine wpQuiet_nil ?_;rintro w' ⟨p,rfl⟩;go_wp2_with fail;go_ret;exact ⟨rfl,B1.out.trans (p.au.mono B1.out.size)⟩
 cases b2
 ·obtain rfl:r=false:=by rw [HX.out];rfl
  refine DE (α:=cG w1) cG.val (by kernel_rfl) (by kernel_rfl) ⟨w1.drew,ck w1 1⟩ rfl ?_;repeat(go_big_quiet_step (first|with_reducible exact q1 _|with_reducible exact q2 _|with_reducible exact q3 _|with_reducible exact q4 _|with_reducible exact q5 _))
  refine wpQuiet_nil ?_;rintro w' ⟨p,rfl⟩;go_wp2_with fail;go_ret;exact ⟨rfl,B1.out.trans (p.au.mono B1.out.size)⟩
 cases b3
 ·obtain rfl:r=false:=by rw [HX.out];rfl
  refine DE (α:=cG w1) cG.val (by kernel_rfl) (by kernel_rfl) ⟨w1.drew,ck w1 1⟩ rfl ?_;repeat(go_big_quiet_step (first|with_reducible exact q1 _|with_reducible exact q2 _|with_reducible exact q3 _|with_reducible exact q4 _|with_reducible exact q5 _))
  refine wpQuiet_nil ?_;rintro w' ⟨p,rfl⟩;go_wp2_with fail;go_ret;exact ⟨rfl,B1.out.trans (p.au.mono B1.out.size)⟩
 ·obtain rfl:r=b4:=by rw [HX.out];simp
  refine DE (α:=cG w1) cG.val (by kernel_rfl) (by kernel_rfl) ⟨w1.drew,ck w1 1⟩ rfl ?_;repeat(go_big_quiet_step (first|with_reducible exact q1 _|with_reducible exact q2 _|with_reducible exact q3 _|with_reducible exact q4 _|with_reducible exact q5 _))
  refine wpQuiet_nil ?_;rintro w' ⟨p,rfl⟩;go_wp2_with fail;go_ret;exact ⟨rfl,B1.out.trans (p.au.mono B1.out.size)⟩
end Go.Proofs.YthopnfbjiifhhaaGreatDoor
