/- TwinPurges returns true; the two variables that its road names are tied to the text of the program. -/
import Derived.Test.YthopnfbjiifhhaaGreatDoorGXMTClosed
import Derived.Test.YthopnfbjiifhhaaGreatDoorGXl
import Derived.Test.YthopnfbjiifhhaaGreatDoorGXy
import Derived.Test.YthopnfbjiifhhaaGreatDoorTie
import Derived.Test.YthopnfbjiifhhaaGreatDoorCards
import Derived.LaidMore
set_option maxRecDepth 100000
namespace Go.Proofs.YthopnfbjiifhhaaGreatDoor
open Go.ChangeShapes Go.WideShapes Go.ChangeAt Go.RowKit Go.Proofs.Tryz
theorem sp_of{w:World}{v:Value}{l:List cK}(h:View.b_ 3 View.eE w v l):∃a c,v=.slice a l.length c/\l.length<=17592186044416/\Rd w a (bB l):=by
 obtain ⟨a,c,cs,e,hr,hn,hb,he⟩:=h;refine ⟨a,c,e,hb, ?_⟩;have:cs=l.map pG:=by
  apply List.ext_getElem (by simp [hn]);intro i h1 h2;have hi:i<l.length:=by omega
  have:=(he i hi).2;rw [aac,aad h1,aac,aad hi]at this;rw [List.getElem_map];exact this
 rw [this]at hr;exact hr
theorem twinPurges_lifted(os:Os)(started:os.Started)(H:Type)(enc:TypeId×Value->H):
 ReturnsInHanded {} Tryz.checked os 3 .any (fun w args=>(Rows.twinPurgesSpec.pre enc prog Tryz.f3 [] false w args/\laidMetH prog laidAll w)/\sizedMet enc prog Tryz.f3 (OpenSpec.ofChange Rows.twinPurgesSpec) false w args)
  (Rows.twinPurgesSpec.post enc prog Tryz.f3 false true false false):=by
 refine returnsInHanded_of_change_and (C:=Tryz.checked) (X:=fun w _=>laidMetH prog laidAll w) (fun _ _ _ hh h=>h.of_heap hh) own started (by as_aux_lemma=>kernel_rfl) func3
  (ChangeSpec.witness_shaped (enc:=enc) (C:=Tryz.checked) (os:=os) (X:=fun w _=>laidMetH prog laidAll w) false (World.laidAll prog os laidAll) #[.agg #[.slice none 0 0,.slice none 0 0,.int .i64 0,.int .i64 0,.int .i64 0,.int .i64 0,.slice none 0 0],.slice none 0 0,.int .u64 0] 8 (World.laidAll_os _ _ _) (laid_shaped os _) (by as_aux_lemma=>kernel_rfl) (by as_aux_lemma=>kernel_rfl) (by as_aux_lemma=>kernel_rfl) (laid_met os _)) ?_
 intro W base args ds gs before WJ hW _ cD hL _;have TF:=fld_of_laid (SZ hL);have TL:=lim_of_laid (SZ hL);have hval:∀(j:Nat) t v,Tryz.f3.params[j]?=some t->args[j]?=some v->Value.okWide prog W .any base t v:=WJ;have Sm:=hW;obtain ⟨p,q,hA0,hV,rfl,Fk,uk⟩:=hW;have hA:DataW.TrodAll enc prog W 0 (fun _=>true) true Tryz.f3.params.toList args.toList ds p:=hA0;rw [params3]at hA hval;have sJ:∀m∈DataW.weightsEach prog (Tryz.f3.params.toList++Rows.twinPurgesSpec.plain.varTypes prog) (ds++gs),m<=reachBytes:=fun m hm=>by
  have:=aa5.1 cD m hm;simpa using this
 rw [params3]at sJ;obtain ⟨v0,vs0,d0,ds0,p0,q0,hargs,rfl,rfl,h0,r0⟩:=trodAll_cons hA;obtain ⟨v1,vs1,d1,ds1,p1,q1,rfl,rfl,rfl,h1,r1⟩:=trodAll_cons r0;obtain ⟨v2,vs2,d2,ds2,p2,q2,rfl,rfl,rfl,h2,r2⟩:=trodAll_cons r1;obtain ⟨rfl,rfl,rfl⟩:=trodAll_nil r2;obtain rfl:args=#[v0,v1,v2]:=by cases args;simp_all
 obtain ⟨rfl,rfl⟩:=trodVars_none hV;have g0:View.vT 26 d0:=fun m hm=>sJ m (DataW.weights_mem_each (j:=0) rfl rfl m hm)
 obtain ⟨cs0,x0,rfl,y0⟩:=View.view_cfg (hval 0 26 v0 rfl rfl) h0 g0;have g1:View.vT 27 d1:=fun m hm=>sJ m (DataW.weights_mem_each (j:=1) rfl rfl m hm)
 obtain ⟨l1,y1⟩:=View.view_script (hval 1 27 v1 rfl rfl) h1 g1;obtain ⟨sa,sc,rfl,z1,z2⟩:=sp_of y1;obtain ⟨a2,rfl,rfl,rfl,w2⟩:=open_int underlying28 (hval 2 28 v2 rfl rfl) h2;have b2:=bounds_u64 w2;obtain ⟨m2,rfl⟩:=abp b2.1;have k2:m2<18446744073709551616:=by omega
 clear hA0 WJ;simp only [List.append_nil]at Sm;have af:∀x∈p0++p1,x.block<W.heap.size:=fun x hx=>by simpa using Sm.lt x (by simpa using hx)
 refine (twinPurges_any y0 m2 k2 sa sc l1 z2 z1 TF TL).mono fun e W' ⟨he,hg⟩=> ?_
 subst he;refine ⟨_,rfl,_,_,_,[],p0++(p1++([]++([]))),[],Sm, ?_, ?_,rfl,hg.frame _,fun h=>by cases h⟩
 · exact trodAll_mk1 (shut_bool underlying4 _)
 · exact (trodAll_cons_mk (Below.trod laidOut (by as_aux_lemma=>kernel_rfl) (of_decide_eq_true (by as_aux_lemma=>kernel_rfl)) h0 hg (fun x hx=>af x (by simp [hx]))) (trodAll_cons_mk (Below.trod laidOut (by as_aux_lemma=>kernel_rfl) (of_decide_eq_true (by as_aux_lemma=>kernel_rfl)) h1 hg (fun x hx=>af x (by simp [hx]))) (trodAll_cons_mk (shut_int underlying28 w2) trodAll_mk0)))
theorem twinPurges_row:Rows.TwinPurgesSaid:=
 OpenClaim.holds_of_wide 3 Tryz.f3 rfl rfl rfl rfl rfl rfl rfl ⟨rfl,rfl,rfl,rfl,rfl⟩ rfl rfl rfl rfl rfl (by as_aux_lemma=>kernel_rfl) func3 twinPurges_closed
  (of_decide_eq_true (by as_aux_lemma=>kernel_rfl)) (by unfold Func.isWrapper;first|(rw [aah (by decide+kernel)];kernel_rfl)|(rw [aaf (by decide+kernel)];exact ⟨rfl,rfl⟩))
  (fun os started H enc _=>twinPurges_lifted os started H enc)
theorem twinPurges_holds:Rows.TwinPurgesCardSaid:=
 Claim7.holds_tied_plain_at .later [] [.data,.data] true (true,"2835a11c32256368e4860cd1fec9de03fe3bfe576e8965b5a6e344c96e066ebf") true
  twinPurges_row (fun _ h=>by cases h) (by as_aux_lemma=>kernel_rfl) (fun _ h=>by cases h) twinPurges_row_tie rfl ⟨rfl,rfl⟩ (by as_aux_lemma=>kernel_rfl) rfl
  (fun f fn hf hfn=>by
    obtain rfl:f=3:=aau ((show prog.funcNamed Rows.twinPurgesRow.func=some 3 by kernel_rfl).symm.trans hf)|>.symm
    obtain rfl:fn=Tryz.f3:=(aau (func3.symm.trans hfn)).symm
    exact ⟨by kernel_rfl,fun j t ht=>by
     rw [params3]at ht;have hm:t∈[26,27,28]:=by simpa using Array.mem_of_getElem? ht
     have aY:([26,27,28].all fun u=> !prog.wantsStandIn u)=true:=by kernel_rfl
     exact (show prog.wantsStandIn t=false by simpa using aa5.1 aY t hm)⟩)
  (by as_aux_lemma=>kernel_rfl)
#print axioms twinPurges_holds
end Go.Proofs.YthopnfbjiifhhaaGreatDoor
