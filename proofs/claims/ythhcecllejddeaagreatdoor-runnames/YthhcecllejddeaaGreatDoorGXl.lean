/- What every row of this seat needs: no knob of its own is turned; a state in which the table is laid; what came in, as the walks ask it. -/
import Derived.Test.YthhcecllejddeaaGreatDoorGQc
import Derived.Test.YthhcecllejddeaaGreatDoorGQz
import Derived.Test.YthhcecllejddeaaGreatDoorRows
import Derived.Lib.LaidU8
import Derived.Lib.OwnBridge
import Derived.ChangeArms
import Derived.ChangeSlices
import Derived.Lay
import Derived.LaidLaws
import Derived.ProofKit
import Derived.OpenShut
import Derived.SizedLaws
import Derived.SevenTiedAt
import Derived.Deep.Strs
namespace Go.Proofs.YthhcecllejddeaaGreatDoor
open Go.ChangeShapes Go.WideShapes Go.ChangeAt Go.RowKit
theorem own : ownKnob Tryz.prog.godebug = none := by kernel_rfl
def laidAll : List (String × DataW Unit) := [("firebreak/code.fields", Rows.laid_firebreak_code_fields), ("firebreak/conf.limits", Rows.laid_firebreak_conf_limits)]
theorem laid_plain {w : World} (h : laidMetH Tryz.prog laidAll w) : laidMet Tryz.prog laidAll w := by
 rw [MakeChecks.laidMetH_plain _ _ _ (by kernel_rfl)] at h
 exact h
theorem laid_shaped (os : Os) (args : Array Value) : ((World.laidAll Tryz.prog os laidAll).forCall (fun _ _ => 0) ⟨#[], args, []⟩).Shaped Tryz.prog := World.shaped_of_ZipB (by kernel_rfl) (by kernel_rfl)
theorem laid_met (os : Os) (args : Array Value) : laidMetH Tryz.prog laidAll ((World.laidAll Tryz.prog os laidAll).forCall (fun _ _ => 0) ⟨#[], args, []⟩).memory := by
 rw [MakeChecks.laidMetH_plain _ _ _ (by kernel_rfl)]
 exact laidMet_laidAll _ (by kernel_rfl) (by kernel_rfl)
theorem fld_of_laid {w : World} (h : laidMet Tryz.prog laidAll w) : Fld w := by
 have h := Lib.laidMet.reads h (n := "firebreak/code.fields") (d := Rows.laid_firebreak_code_fields) (by simp [laidAll])
 obtain ⟨g, t, cs, fuel, p, hg, ht, hv, hr⟩ := h
 have e1 : Tryz.prog.globalNamed "firebreak/code.fields" = some 1 := by kernel_rfl
 obtain rfl : 1 = g := Option.some.inj (e1.symm.trans hg)
 have e2 : (Tryz.prog.globals[1]?).map (·.type) = some 337 := by kernel_rfl
 obtain rfl : 337 = t := Option.some.inj (e2.symm.trans ht)
 have c1 : Tryz.prog.cellsOf 5 = 1 := by kernel_rfl
 have c2 : Tryz.prog.cellsOf 337 = 34 := by kernel_rfl
 have hdd : (Rows.laid_firebreak_code_fields : DataW Unit) = Lib.tabData .u8 tabF := by kernel_rfl
 rw [hdd] at hr
 have hcs := Lib.cells_of_tab Tryz.underlying337 Tryz.underlying5 c1 c2 hr
 intro i hi
 rw [World.var?_cell hg hv i, ← Array.getElem?_toList, hcs]
 have hl : i < tabF.length := hi
 simp [List.getD_eq_getElem?_getD, hl]
theorem lim_of_laid {w : World} (h : laidMet Tryz.prog laidAll w) : Lim w := by
 have h := Lib.laidMet.reads h (n := "firebreak/conf.limits") (d := Rows.laid_firebreak_conf_limits) (by simp [laidAll])
 obtain ⟨g, t, cs, fuel, p, hg, ht, hv, hr⟩ := h
 have e1 : Tryz.prog.globalNamed "firebreak/conf.limits" = some 0 := by kernel_rfl
 obtain rfl : 0 = g := Option.some.inj (e1.symm.trans hg)
 have e2 : (Tryz.prog.globals[0]?).map (·.type) = some 137 := by kernel_rfl
 obtain rfl : 137 = t := Option.some.inj (e2.symm.trans ht)
 have c1 : Tryz.prog.cellsOf 3 = 1 := by kernel_rfl
 have c2 : Tryz.prog.cellsOf 136 = 3 := by kernel_rfl
 have hdd : (Rows.laid_firebreak_conf_limits : DataW Unit) = .agg ((List.range 4).map fun i => .agg ([limT.getD (3 * i) 0, limT.getD (3 * i + 1) 0, limT.getD (3 * i + 2) 0].map fun z => .lit (.int .i64 z))) := by kernel_rfl
 rw [hdd] at hr
 have each : ∀ i, i < 4 → ∀ j, j < 3 → w.cell? ⟨0, 3 * i + j, none⟩ = some (.int .i64 (limT.getD (3 * i + j) 0)) := by
  intro i hi j hj
  obtain ⟨fuel', d, q, hdi, he⟩ := Lib.array_elem Tryz.underlying137 hr i hi
  simp only [List.getElem?_map, List.getElem?_range hi, Option.map_some, Option.some.injEq] at hdi
  subst hdi
  rw [c2] at he
  have hcs := Lib.ints_of_struct Tryz.underlying136 (fun j f hj => by
   match j, hj with
   | 0, hj => simp at hj; subst hj; exact ⟨Tryz.underlying3, rfl, c1⟩
   | 1, hj => simp at hj; subst hj; exact ⟨Tryz.underlying3, rfl, c1⟩
   | 2, hj => simp at hj; subst hj; exact ⟨Tryz.underlying3, rfl, c1⟩
   | j + 3, hj => simp at hj) (by rw [c2]; rfl) he
  have e0 := congrArg (·[j]?) hcs
  simp only [List.getElem?_take, List.getElem?_drop, hj, if_true] at e0
  rw [World.var?_cell hg hv (3 * i + j), ← Array.getElem?_toList, Nat.mul_comm 3 i, e0]
  have : j = 0 ∨ j = 1 ∨ j = 2 := by omega
  rcases this with rfl | rfl | rfl <;> simp [Nat.mul_comm]
 intro i hi
 have h := each (i / 3) (by omega) (i % 3) (by omega)
 rw [show 3 * (i / 3) + i % 3 = i by omega] at h
 exact h
end Go.Proofs.YthhcecllejddeaaGreatDoor

namespace Go.Proofs.YthhcecllejddeaaGreatDoor
open Go.RowKit
theorem and_t {a b : Bool} (ha : a = true) (hb : b = true) : (a && b) = true := by rw [ha, hb]; rfl
set_option maxRecDepth 100000 in
set_option maxHeartbeats 4000000 in
theorem runNames_closed : joinedFacts Tryz.pinned.checked.prog 3 Tryz.f3 Rows.runNamesSpec Rows.runNamesRow = true := by
 unfold joinedFacts
 refine (and_t (and_t (and_t (and_t (and_t (and_t (and_t (and_t (and_t (and_t (and_t (and_t (and_t (and_t (and_t (and_t (and_t (and_t (and_t (and_t (and_t (and_t (and_t (and_t (and_t (and_t (and_t (and_t (and_t (and_t (and_t ?_ ?_) ?_) ?_) ?_) ?_) ?_) ?_) ?_) ?_) ?_) ?_) ?_) ?_) ?_) ?_) ?_) ?_) ?_) ?_) ?_) ?_) ?_) ?_) ?_) ?_) ?_) ?_) ?_) ?_) ?_) ?_)
 all_goals (as_aux_lemma => kernel_rfl)
end Go.Proofs.YthhcecllejddeaaGreatDoor
