/- What the rows list, as the walks want it. -/
import Derived.Test.YtalaajniammggaaGreatDoorRows
import Derived.Test.YtalaajniammggaaGreatDoorXWc
import Derived.Lib.LaidU8
import Derived.ChangeArms
import Derived.ChangeSlices
import Derived.Lay
import Derived.LaidLaws
import Derived.SevenTiedAt
namespace Go.Proofs.YtalaajniammggaaGreatDoor
open Go.RowKit Go.Lib
def laidAll : List (String × DataW Unit) := Rows.asmNamesRow.laid
theorem rd_optimize {w : World} (h : VarReads Tryz.prog w "internal/strconv.optimize" Rows.laid_internal_strconv_optimize) : w.cell? ⟨9, 0, none⟩ = some (.bool true) := by
 obtain ⟨g,t,cs,fuel,p,hg,ht,hv,hr⟩ := h
 have e1 : Tryz.prog.globalNamed "internal/strconv.optimize" = some 9 := by kernel_rfl
 obtain rfl : 9 = g := Option.some.inj (e1.symm.trans hg)
 have e2 : (Tryz.prog.globals[9]?).map (·.type) = some 4 := by kernel_rfl
 obtain rfl : 4 = t := Option.some.inj (e2.symm.trans ht)
 obtain ⟨b,hb,hx⟩ := DataW.trod_bool Tryz.underlying4 hr
 have hx1 := congrArg Prod.fst hx
 simp only [Rows.laid_internal_strconv_optimize,DataW.lit.injEq,Lit.bool.injEq] at hx1
 have hc := World.var?_cell hg hv 0
 rw [hc,← Array.getElem?_toList,hb,← hx1]; rfl
theorem rd_info {w : World} (h : VarReads Tryz.prog w "internal/strconv.float64info" Rows.laid_internal_strconv_float64info) : w.cell? ⟨13, 0, none⟩ = some (.int .u64 52) := by
 obtain ⟨g,t,cs,fuel,p,hg,ht,hv,hr⟩ := h
 have e1 : Tryz.prog.globalNamed "internal/strconv.float64info" = some 13 := by kernel_rfl
 obtain rfl : 13 = g := Option.some.inj (e1.symm.trans hg)
 have e2 : (Tryz.prog.globals[13]?).map (·.type) = some 221 := by kernel_rfl
 obtain rfl : 221 = t := Option.some.inj (e2.symm.trans ht)
 obtain ⟨xs,n,rfl,hx,hl,hxl,hall⟩ := DataW.trod_struct Tryz.underlying221 hr
 have hc := World.var?_cell hg hv 0
 have hx1 := congrArg Prod.fst hx
 simp only [Rows.laid_internal_strconv_float64info,DataW.agg.injEq] at hx1
 match xs,hx1 with
 | x0 :: r,hx1 =>
  simp only [List.map_cons,List.cons.injEq] at hx1
  have h0 := hall 0 _ rfl
  have c1 : Tryz.prog.cellsOf 102 = 1 := by kernel_rfl
  simp only [List.getElem?_cons_zero] at h0
  obtain ⟨z,hz,hxz,-⟩ := DataW.trod_int Tryz.underlying102 h0
  have hz2 : DataW.lit (.int .u64 52) = (.lit (.int .u64 z) : DataW Unit) := by rw [hx1.1,hxz]
  simp only [DataW.lit.injEq,Lit.int.injEq,true_and] at hz2
  rw [hc,← Array.getElem?_toList]
  have := congrArg (·[0]?) hz
  simp only [List.getElem?_take,List.getElem?_cons_zero] at this
  rw [hz2]
  have h1 : 0 < Tryz.prog.cellsOf 102 := by rw [c1]; decide
  simp at this
  simpa using this.2
theorem rd_pow {w : World} (h : VarReads Tryz.prog w "internal/strconv.float64pow10" Rows.laid_internal_strconv_float64pow10) :
  ∃ b o,w.cell? ⟨16,0,none⟩ = some (.slice (some ⟨b,o,none⟩) 23 23) ∧ w.cell? ⟨b,o + 1,none⟩ = some (.float .f64 4621819117588971520) ∧ w.cell? ⟨b,o + 2,none⟩ = some (.float .f64 4636737291354636288) := by
 obtain ⟨g,t,cs,fuel,p,hg,ht,hv,hr⟩ := h
 have e1 : Tryz.prog.globalNamed "internal/strconv.float64pow10" = some 16 := by kernel_rfl
 obtain rfl : 16 = g := Option.some.inj (e1.symm.trans hg)
 have e2 : (Tryz.prog.globals[16]?).map (·.type) = some 237 := by kernel_rfl
 obtain rfl : 237 = t := Option.some.inj (e2.symm.trans ht)
 have hc := World.var?_cell hg hv 0
 rcases DataW.trod_slice Tryz.underlying237 hr with ⟨-,hx⟩ | ⟨a,len,cap,elems,rest,n,rfl,hcs,hx,-,hlc,-,hel,hcell,hsp,-⟩
 ·have := congrArg Prod.fst hx
  simp [Rows.laid_internal_strconv_float64pow10] at this
 ·have hx1 := congrArg Prod.fst hx
  simp only [Rows.laid_internal_strconv_float64pow10,DataW.slice.injEq] at hx1
  obtain ⟨hE,hR⟩ := hx1
  have hlen : len = 23 := by
   have := congrArg List.length hE
   simp at this
   omega
  have hrl := (hsp rfl).1
  have hcap : cap = 23 := by
   have := congrArg List.length hR
   simp at this
   omega
  subst hlen hcap
  have c1 : Tryz.prog.cellsOf 107 = 1 := by kernel_rfl
  have key : ∀ i v,i < 23 → (elems.map (·.1))[i]? = some (.lit (.float .f64 v)) → w.cell? (a.add i) = some (.float .f64 v) := by
   intro i v hi hm
   have h0 := hcell i hi
   rw [c1,Nat.mul_one] at h0
   rw [List.getElem?_map] at hm
   obtain ⟨x,hx2,hx3⟩ := Option.map_eq_some_iff.1 hm
   rw [hx2] at h0
   obtain ⟨cl,hcl,htr⟩ := Option.bind_eq_some_iff.1 h0
   have hfl : ∃ z,cl = [.float .f64 z] ∧ x = (.lit (.float .f64 z),[]) := by
    cases n with
    | zero => simp [DataW.trod] at htr
    | succ n =>
     unfold DataW.trod at htr
     rw [Tryz.underlying107] at htr
     split at htr <;> simp_all
   obtain ⟨z,rfl,rfl⟩ := hfl
   simp only [DataW.lit.injEq,Lit.float.injEq,true_and] at hx3
   subst hx3
   exact Go.ChangeShapes.cell_of_cells?_one hcl
  obtain ⟨R,o,sR⟩ := a
  have k1 := key 1 4621819117588971520 (by omega) (by rw [← hE]; rfl)
  have k2 := key 2 4636737291354636288 (by omega) (by rw [← hE]; rfl)
  have k0 := key 0 4607182418800017408 (by omega) (by rw [← hE]; rfl)
  have e0 : (Addr.add ⟨R,o,sR⟩ 0) = ⟨R,o,sR⟩ := by simp [Addr.add]
  rw [e0] at k0
  obtain rfl : sR = none := Go.Proofs.cell_spot k0
  rw [Addr.add_lit] at k1 k2
  refine ⟨R,o,?_,k1,k2⟩
  rw [hc,← Array.getElem?_toList,hcs]; rfl
theorem rd_ten {w : World} (h : VarReads Tryz.prog w "internal/strconv.uint64pow10" Rows.laid_internal_strconv_uint64pow10) : Lib.TabIs Tryz.prog w "internal/strconv.uint64pow10" .u64 Lib.pow10Tab := by
 obtain ⟨g,t,cs,fuel,p,hg,ht,hv,hr⟩ := h
 have e1 : Tryz.prog.globalNamed "internal/strconv.uint64pow10" = some 4 := by kernel_rfl
 obtain rfl : 4 = g := Option.some.inj (e1.symm.trans hg)
 have e2 : (Tryz.prog.globals[4]?).map (·.type) = some 132 := by kernel_rfl
 obtain rfl : 132 = t := Option.some.inj (e2.symm.trans ht)
 unfold Lib.TabIs
 have c1 : Tryz.prog.cellsOf 99 = 1 := by kernel_rfl
 have c2 : Tryz.prog.cellsOf 132 = 20 := by kernel_rfl
 have hd : (Rows.laid_internal_strconv_uint64pow10 : DataW Unit) = Lib.tabData .u64 Lib.pow10Tab := by kernel_rfl
 rw [hd] at hr
 rw [hv,← Lib.cells_of_tab Tryz.underlying132 Tryz.underlying99 c1 c2 hr]
theorem rd_tab {w : World} (h : VarReads Tryz.prog w "internal/strconv.pow10Tab" Rows.laid_internal_strconv_pow10Tab) (i : Nat) (hi : i < 696) :
  ∃ x : Nat × Nat,Pinned.pow10Rows[i]? = some x ∧ w.cell? ⟨10,2 * i,none⟩ = some (.int .u64 x.1) ∧ w.cell? ⟨10,2 * i + 1,none⟩ = some (.int .u64 x.2) := by
 obtain ⟨g,t,cs,fuel,p,hg,ht,hv,hr⟩ := h
 have e1 : Tryz.prog.globalNamed "internal/strconv.pow10Tab" = some 10 := by kernel_rfl
 obtain rfl : 10 = g := Option.some.inj (e1.symm.trans hg)
 have e2 : (Tryz.prog.globals[10]?).map (·.type) = some 205 := by kernel_rfl
 obtain rfl : 205 = t := Option.some.inj (e2.symm.trans ht)
 have hd : (Rows.laid_internal_strconv_pow10Tab : DataW Unit) = .agg (Pinned.pow10Rows.map fun x => .agg [.lit (.int .u64 x.1),.lit (.int .u64 x.2)]) := rfl
 rw [hd] at hr
 obtain ⟨fuel',d,q,hdi,htr⟩ := Lib.array_elem Tryz.underlying205 hr i hi
 rw [List.getElem?_map] at hdi
 obtain ⟨x,hx,rfl⟩ := Option.map_eq_some_iff.1 hdi
 have c1 : Tryz.prog.cellsOf 204 = 2 := by kernel_rfl
 have c2 : Tryz.prog.cellsOf 99 = 1 := by kernel_rfl
 have hcs : (cs.toList.drop (i * Tryz.prog.cellsOf 204)).take (Tryz.prog.cellsOf 204) = [(x.1 : Int),(x.2 : Int)].map fun z => Value.int .u64 z := by
  refine Lib.ints_of_struct (k := .u64) Tryz.underlying204 ?_ (by rw [c1]; rfl) htr
  intro j f hf
  match j,hf with
  | 0,hf => cases hf; exact ⟨Tryz.underlying99,rfl,c2⟩
  | 1,hf => cases hf; exact ⟨Tryz.underlying99,rfl,c2⟩
 rw [c1] at hcs
 refine ⟨x,hx,?_,?_⟩
 ·rw [World.var?_cell hg hv (2 * i),← Array.getElem?_toList]
  have := congrArg (·[0]?) hcs
  simp only [List.getElem?_take,List.getElem?_drop] at this
  rw [Nat.mul_comm 2 i]
  simpa using this
 ·rw [World.var?_cell hg hv (2 * i + 1),← Array.getElem?_toList]
  have := congrArg (·[1]?) hcs
  simp only [List.getElem?_take,List.getElem?_drop] at this
  rw [Nat.mul_comm 2 i]
  simpa using this
theorem tabs_of_laid {w : World} (h : laidMet Tryz.prog laidAll w) : Tabs w := by
 have m := fun n d (hm : (n,d) ∈ laidAll) => Lib.laidMet.reads h hm
 have ht := m "internal/strconv.pow10Tab" Rows.laid_internal_strconv_pow10Tab (by simp [laidAll, Rows.asmNamesRow])
 obtain ⟨x,hx,k1,k2⟩ := rd_tab ht 364 (by omega)
 have hx2 : Pinned.pow10Rows[364]? = some (10240000000000000000,0) := by kernel_rfl
 obtain rfl := Option.some.inj (hx2.symm.trans hx)
 exact ⟨rd_optimize (m _ _ (by simp [laidAll,Rows.asmNamesRow])),rd_info (m _ _ (by simp [laidAll,Rows.asmNamesRow])),rd_pow (m _ _ (by simp [laidAll,Rows.asmNamesRow])),rd_ten (m _ _ (by simp [laidAll,Rows.asmNamesRow])),k1,k2⟩
end Go.Proofs.YtalaajniammggaaGreatDoor

/- What every row of this seat needs: no knob of its own is turned; a state in which the listed variables are laid. -/
namespace Go.Proofs.YtalaajniammggaaGreatDoor
theorem own : ownKnob Tryz.prog.godebug = none := by kernel_rfl
theorem laid_plain {w : World} (h : laidMetH Tryz.prog laidAll w) : laidMet Tryz.prog laidAll w := by
 rw [MakeChecks.laidMetH_plain _ _ _ (by kernel_rfl)] at h
 exact h
theorem laid_shaped (os : Os) (args : Array Value) : ((World.laidAll Tryz.prog os laidAll).forCall (fun _ _ => 0) ⟨#[],args,[]⟩).Shaped Tryz.prog := World.shaped_of_ZipB (by kernel_rfl) (by kernel_rfl)
theorem laid_met (os : Os) (args : Array Value) : laidMetH Tryz.prog laidAll ((World.laidAll Tryz.prog os laidAll).forCall (fun _ _ => 0) ⟨#[],args,[]⟩).memory := by
 rw [MakeChecks.laidMetH_plain _ _ _ (by kernel_rfl)]
 exact laidMet_laidAll _ (by kernel_rfl) (by kernel_rfl)
end Go.Proofs.YtalaajniammggaaGreatDoor
