/- What every row of this seat needs: no knob of its own is turned; the state that the door's own run leaves meets what the rows list. -/
import Derived.Test.YtjjhfmiegoohlaaDoorRows
import Derived.LaidMore
import Derived.LaidLaws
namespace Go.Proofs.YtjjhfmiegoohlaaDoor

theorem own : ownKnob Tryd.prog.godebug = none := by kernel_rfl

/-- What the rows list. -/
def laidAll : List (String × DataW Unit) := Rows.labelNamesRow.laid

theorem door_met (os : Os) (args : Array Value) : laidMetH Tryd.prog laidAll ((World.doorLaid Tryd.prog 400 os).forCall (fun _ _ => 0) ⟨#[], args, []⟩).memory :=
  laidMetH_of_parts3 (fuel := 8) (laidMet_of_run' 8 (by kernel_rfl) (by kernel_rfl)) (by kernel_rfl) (by kernel_rfl)
end Go.Proofs.YtjjhfmiegoohlaaDoor
