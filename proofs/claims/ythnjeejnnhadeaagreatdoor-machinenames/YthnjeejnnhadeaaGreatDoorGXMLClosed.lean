/- The closed facts of MachineNames' row, each a lemma of its own (the kernel gives its memory back behind each). -/
import Derived.Test.YthnjeejnnhadeaaGreatDoorRows
import Derived.ProofKit
import Derived.OpenShut
namespace Go.Proofs.YthnjeejnnhadeaaGreatDoor
open Go.RowKit
theorem and_t {a b : Bool} (ha : a = true) (hb : b = true) : (a && b) = true := by rw [ha, hb]; rfl
set_option maxRecDepth 100000 in
set_option maxHeartbeats 4000000 in
theorem machineNames_closed : joinedFacts Tryz.pinned.checked.prog 3 Tryz.f3 Rows.machineNamesSpec Rows.machineNamesRow = true := by
 unfold joinedFacts
 refine (and_t (and_t (and_t (and_t (and_t (and_t (and_t (and_t (and_t (and_t (and_t (and_t (and_t (and_t (and_t (and_t (and_t (and_t (and_t (and_t (and_t (and_t (and_t (and_t (and_t (and_t (and_t (and_t (and_t (and_t (and_t ?_ ?_) ?_) ?_) ?_) ?_) ?_) ?_) ?_) ?_) ?_) ?_) ?_) ?_) ?_) ?_) ?_) ?_) ?_) ?_) ?_) ?_) ?_) ?_) ?_) ?_) ?_) ?_) ?_) ?_) ?_) ?_)
 all_goals (as_aux_lemma => kernel_rfl)
end Go.Proofs.YthnjeejnnhadeaaGreatDoor
