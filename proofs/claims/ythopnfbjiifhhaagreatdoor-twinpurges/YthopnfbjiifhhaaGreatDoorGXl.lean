/- What every row of this seat needs: no knob of its own is turned; a state in which the table is laid; what came in, as the walks ask it. -/
import Derived.Test.YthopnfbjiifhhaaGreatDoorGQc
import Derived.Test.YthopnfbjiifhhaaGreatDoorRows
import Derived.Lib.LaidU8
import Derived.Lib.OwnBridge
import Derived.Lay
import Derived.ProofKit
import Derived.OpenShut
import Derived.SevenTiedAt
import Derived.Deep.Strs
namespace Go.Proofs.YthopnfbjiifhhaaGreatDoor
open Go.ChangeShapes Go.WideShapes Go.ChangeAt Go.RowKit Go.Proofs.Tryz
theorem own:ownKnob prog.godebug=none:=by kernel_rfl
theorem laidOut:laidOutB prog=true:=by kernel_rfl
def laidAll:List (String×DataW Unit):=[("firebreak/code.fields",Rows.laid_firebreak_code_fields),("firebreak/conf.limits",Rows.laid_firebreak_conf_limits)]
variable{w:World}
theorem SZ(h:laidMetH prog laidAll w):laidMet prog laidAll w:=by
 rw [MakeChecks.laidMetH_plain _ _ _ (by kernel_rfl)]at h;exact h
theorem laid_shaped(os:Os)(args:Array Value):((World.laidAll prog os laidAll).forCall (fun _ _=>0) ⟨#[],args,[]⟩).Shaped prog:=World.shaped_of_ZipB (by kernel_rfl) (by kernel_rfl)
theorem laid_met(os:Os)(args:Array Value):laidMetH prog laidAll ((World.laidAll prog os laidAll).forCall (fun _ _=>0) ⟨#[],args,[]⟩).memory:=by
 rw [MakeChecks.laidMetH_plain _ _ _ (by kernel_rfl)];exact laidMet_laidAll _ (by kernel_rfl) (by kernel_rfl)
theorem fld_of_laid(h:laidMet prog laidAll w):bR w:=by
 have h:=Lib.laidMet.reads h (n:="firebreak/code.fields") (d:=Rows.laid_firebreak_code_fields) (by simp [laidAll]);obtain ⟨g,t,cs,fuel,p,hg,ht,hv,hr⟩:=h;have e1:prog.globalNamed "firebreak/code.fields"=some 1:=by kernel_rfl
 obtain rfl:1=g:=aau (e1.symm.trans hg);have e2:(prog.globals[1]?).map (·.type)=some 275:=by kernel_rfl
 obtain rfl:275=t:=aau (e2.symm.trans ht);have c1:prog.cellsOf 5=1:=by kernel_rfl
 have c2:prog.cellsOf 275=34:=by kernel_rfl
 have jZ:(Rows.laid_firebreak_code_fields:DataW Unit)=Lib.tabData .u8 zZ:=by kernel_rfl
 rw [jZ]at hr;have hcs:=Lib.cells_of_tab underlying275 underlying5 c1 c2 hr;intro i hi;rw [World.var?_cell hg hv i,<-Array.getElem?_toList,hcs];have hl:i<zZ.length:=hi;simp [List.getD_eq_getElem?_getD,hl]
theorem lim_of_laid(h:laidMet prog laidAll w):eQ w:=by
 have h:=Lib.laidMet.reads h (n:="firebreak/conf.limits") (d:=Rows.laid_firebreak_conf_limits) (by simp [laidAll]);obtain ⟨g,t,cs,fuel,p,hg,ht,hv,hr⟩:=h;have e1:prog.globalNamed "firebreak/conf.limits"=some 0:=by kernel_rfl
 obtain rfl:0=g:=aau (e1.symm.trans hg);have e2:(prog.globals[0]?).map (·.type)=some 91:=by kernel_rfl
 obtain rfl:91=t:=aau (e2.symm.trans ht);have c1:prog.cellsOf 3=1:=by kernel_rfl
 have c2:prog.cellsOf 90=3:=by kernel_rfl
 have jZ:(Rows.laid_firebreak_conf_limits:DataW Unit)=.agg ((List.range 4).map fun i=> .agg ([qK.getD (3*i) 0,qK.getD (3*i+1) 0,qK.getD (3*i+2) 0].map fun z=> .lit (.int .i64 z))):=by kernel_rfl
 rw [jZ]at hr;have each:∀i,i<4->∀j,j<3->w.cell? ⟨0,3*i+j,none⟩=some (.int .i64 (qK.getD (3*i+j) 0)):=by
  intro i hi j hj;obtain ⟨fuel',d,q,XV,he⟩:=Lib.array_elem underlying91 hr i hi;simp only [List.getElem?_map,List.getElem?_range hi,Option.map_some,Option.some.injEq]at XV;subst XV;rw [c2]at he
  have hcs:=Lib.ints_of_struct underlying90 (fun j f hj=>by
   match j,hj with
   |0,hj=>simp at hj;subst hj;exact ⟨aaY,rfl,c1⟩
   |1,hj=>simp at hj;subst hj;exact ⟨aaY,rfl,c1⟩
   |2,hj=>simp at hj;subst hj;exact ⟨aaY,rfl,c1⟩
   |j+3,hj=>simp at hj) (by rw [c2];rfl) he
  have e0:=abb (·[j]?) hcs;simp only [List.getElem?_take,List.getElem?_drop,hj,if_true]at e0;rw [World.var?_cell hg hv (3*i+j),<-Array.getElem?_toList,abF 3 i,e0];have:j=0\/j=1\/j=2:=by omega
  rcases this with rfl|rfl|rfl<;>simp [Nat.mul_comm]
 intro i hi;have h:=each (i/3) (by omega) (i% 3) (by omega);rw [show 3*(i/3)+i% 3=i by omega]at h;exact h
end Go.Proofs.YthopnfbjiifhhaaGreatDoor
