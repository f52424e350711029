/- The document's line. -/
import Derived.Test.YtalaajniammggaaGreatDoorXRa
import Derived.Test.YtalaajniammggaaGreatDoorXAg
namespace Go.Proofs.YtalaajniammggaaGreatDoor
open Go.RowKit
end Go.Proofs.YtalaajniammggaaGreatDoor

/- The document's text of a program; AsmPrints. -/
namespace Go.Proofs.YtalaajniammggaaGreatDoor
open Go.RowKit
end Go.Proofs.YtalaajniammggaaGreatDoor
