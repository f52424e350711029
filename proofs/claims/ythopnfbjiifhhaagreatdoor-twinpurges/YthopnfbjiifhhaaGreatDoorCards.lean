/-
  DERIVED. GIVEN WITH THE SEED: THE CARDS: each row of YthopnfbjiifhhaaGreatDoorRows.lean that lists a variable, with what it lists TIED to the program's text (the seventh form; the later family's looks); each row that meets fmt, with fmt's text TOLD by the authors' own Lean function (tested against real Go, not proved from fmt's source: count such statements apart). THE CARD IS WHAT COUNTS. Prove the row's statement (the work); the ties are given (YthopnfbjiifhhaaGreatDoorTie.lean); close each card by the builder's one call (the guide's Derived/Test/ToyasCard.lean, 'card_holds'). Laid BY PROGRAM, IN A SANDBOX (cutbox-door.mjs). By AI agents, Wed Nov 11 2026. No macro, syntax, notation, axiom, sorry.
-/
import Derived.Test.YthopnfbjiifhhaaGreatDoorRows
import GoSem.ClaimSeven
namespace Go.Proofs.YthopnfbjiifhhaaGreatDoor
namespace Rows

/-- THE TIED CARD OF 'firebreaklaw19.TwinPurges'. -/
def twinPurgesCard : Claim7 := { stood := { row := twinPurgesRow, standIns := [], harness := (true, "2835a11c32256368e4860cd1fec9de03fe3bfe576e8965b5a6e344c96e066ebf"), looks := true }, kinds := [], alts := [], laidByText := true, laidKinds := [.data, .data], laidTests := true, laidLooks := .later }
def TwinPurgesCardSaid : Prop := Claim7.holds Tryz.pinned (.plain (OpenSpec.ofChange twinPurgesSpec)) twinPurgesCard

/-- THE SECOND FORM's CARD OF 'firebreaklaw19.TwinPurges'. -/
def twinPurgesUptoCard : Claim7 := { stood := { row := twinPurgesUptoRow, standIns := [], harness := (true, "2835a11c32256368e4860cd1fec9de03fe3bfe576e8965b5a6e344c96e066ebf"), looks := true }, kinds := [], alts := [], laidByText := true, laidKinds := [.data, .data], laidTests := true, laidLooks := .later }
def TwinPurgesUptoCardSaid : Prop := Claim7.holds Tryz.pinned (.plain (OpenSpec.upto twinPurgesSpec)) twinPurgesUptoCard
end Rows
end Go.Proofs.YthopnfbjiifhhaaGreatDoor
