/-
  DERIVED. GIVEN WITH THE SEED: THE CARDS: each row of YthhcecllejddeaaGreatDoorRows.lean that lists a variable, with what it lists TIED to the program's text (the seventh form; the later family's looks); each row that meets fmt, with fmt's text TOLD by the authors' own Lean function (tested against real Go, not proved from fmt's source: count such statements apart). THE CARD IS WHAT COUNTS. Prove the row's statement (the work); the ties are given (YthhcecllejddeaaGreatDoorTie.lean); close each card by the builder's one call (the guide's Derived/Test/ToyasCard.lean, 'card_holds'). Laid BY PROGRAM, IN A SANDBOX (cutbox-door.mjs). By AI agents, Wed Nov 11 2026. No macro, syntax, notation, axiom, sorry.
-/
import Derived.Test.YthhcecllejddeaaGreatDoorRows
import GoSem.ClaimSeven
namespace Go.Proofs.YthhcecllejddeaaGreatDoor
namespace Rows

/-- THE TIED CARD OF 'firebreaklaw17.RunNames'. -/
def runNamesCard : Claim7 := { stood := { row := runNamesRow, standIns := [], harness := (true, "9aa52ca0a1d3d7c69c2f086c1567e4e4ad716e30f9143d9e12fb08382438bf0e"), looks := true }, kinds := [], alts := [], laidByText := true, laidKinds := [.data, .data], laidTests := true, laidLooks := .later }
def RunNamesCardSaid : Prop := Claim7.holds Tryz.pinned (.plain (OpenSpec.ofChange runNamesSpec)) runNamesCard

/-- THE TIED CARD OF 'firebreaklaw19.TwinPurges'. -/
def twinPurgesCard : Claim7 := { stood := { row := twinPurgesRow, standIns := [], harness := (true, "9aa52ca0a1d3d7c69c2f086c1567e4e4ad716e30f9143d9e12fb08382438bf0e"), looks := true }, kinds := [], alts := [], laidByText := true, laidKinds := [.data, .data], laidTests := true, laidLooks := .later }
def TwinPurgesCardSaid : Prop := Claim7.holds Tryz.pinned (.plain (OpenSpec.ofChange twinPurgesSpec)) twinPurgesCard

/-- THE SECOND FORM's CARD OF 'firebreaklaw17.RunNames'. -/
def runNamesUptoCard : Claim7 := { stood := { row := runNamesUptoRow, standIns := [], harness := (true, "9aa52ca0a1d3d7c69c2f086c1567e4e4ad716e30f9143d9e12fb08382438bf0e"), looks := true }, kinds := [], alts := [], laidByText := true, laidKinds := [.data, .data], laidTests := true, laidLooks := .later }
def RunNamesUptoCardSaid : Prop := Claim7.holds Tryz.pinned (.plain (OpenSpec.upto runNamesSpec)) runNamesUptoCard

/-- THE SECOND FORM's CARD OF 'firebreaklaw19.TwinPurges'. -/
def twinPurgesUptoCard : Claim7 := { stood := { row := twinPurgesUptoRow, standIns := [], harness := (true, "9aa52ca0a1d3d7c69c2f086c1567e4e4ad716e30f9143d9e12fb08382438bf0e"), looks := true }, kinds := [], alts := [], laidByText := true, laidKinds := [.data, .data], laidTests := true, laidLooks := .later }
def TwinPurgesUptoCardSaid : Prop := Claim7.holds Tryz.pinned (.plain (OpenSpec.upto twinPurgesSpec)) twinPurgesUptoCard
end Rows
end Go.Proofs.YthhcecllejddeaaGreatDoor
