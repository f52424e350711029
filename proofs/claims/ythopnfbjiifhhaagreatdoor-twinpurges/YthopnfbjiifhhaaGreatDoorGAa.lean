/- The table of functions, as memory. -/
import Derived.Test.YthopnfbjiifhhaaGreatDoorA0
import Derived.Test.YthopnfbjiifhhaaGreatDoorProg
import Derived.WalkSpells
import Derived.WalkLawsBesides
import Derived.Deep.MidRow
import Derived.Deep.CutRange
namespace Go.Proofs.YthopnfbjiifhhaaGreatDoor.Alu
open Go.RowKit
theorem FV{k:IntKind}{a b:Int}(h:a=b):Ending.returned (.int k a)=.returned (.int k b):=by rw [h]
end Go.Proofs.YthopnfbjiifhhaaGreatDoor.Alu
