/- The closed facts of TwinPurges' row, each a lemma of its own (the kernel gives its memory back behind each). -/
import Derived.Test.YthopnfbjiifhhaaGreatDoorA0
import Derived.Test.YthopnfbjiifhhaaGreatDoorRows
import Derived.ProofKit
import Derived.OpenShut
set_option maxHeartbeats 4000000
set_option maxRecDepth 100000
namespace Go.Proofs.YthopnfbjiifhhaaGreatDoor
open Go.RowKit
theorem ik{a b:Bool}(ha:a=true)(hb:b=true):(a&&b)=true:=by rw [ha,hb];rfl
theorem twinPurges_closed:joinedFacts Tryz.pinned.checked.prog 3 Tryz.f3 Rows.twinPurgesSpec Rows.twinPurgesRow=true:=by
 unfold joinedFacts;refine (ik (ik (ik (ik (ik (ik (ik (ik (ik (ik (ik (ik (ik (ik (ik (ik (ik (ik (ik (ik (ik (ik (ik (ik (ik (ik (ik (ik (ik (ik (ik ?_ ?_) ?_) ?_) ?_) ?_) ?_) ?_) ?_) ?_) ?_) ?_) ?_) ?_) ?_) ?_) ?_) ?_) ?_) ?_) ?_) ?_) ?_) ?_) ?_) ?_) ?_) ?_) ?_) ?_) ?_) ?_);all_goals (as_aux_lemma=>kernel_rfl)
end Go.Proofs.YthopnfbjiifhhaaGreatDoor
