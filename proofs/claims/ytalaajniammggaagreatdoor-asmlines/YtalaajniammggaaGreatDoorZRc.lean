/- The document's upTo, field and register. -/
import Derived.Test.YtalaajniammggaaGreatDoorZRa
import Derived.Test.YtalaajniammggaaGreatDoorZAf
namespace Go.Proofs.YtalaajniammggaaGreatDoor
open Go.RowKit

end Go.Proofs.YtalaajniammggaaGreatDoor
