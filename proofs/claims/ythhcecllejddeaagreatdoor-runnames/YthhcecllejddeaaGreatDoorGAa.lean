/- The table of functions, as memory. -/
import Derived.Test.YthhcecllejddeaaGreatDoorProg
import Derived.WalkKit
import Derived.WalkSpells
import Derived.WalkLawsBesides
import Derived.Laws.Rows
import Derived.Laws.IdiomCopy
import Derived.Deep.MidRow
import Derived.Deep.CutRange
namespace Go.Proofs.YthhcecllejddeaaGreatDoor.Alu
open Go.RowKit
theorem ret_int {k : IntKind} {a b : Int} (h : a = b) : Ending.returned (.int k a) = .returned (.int k b) := by rw [h]
end Go.Proofs.YthhcecllejddeaaGreatDoor.Alu
