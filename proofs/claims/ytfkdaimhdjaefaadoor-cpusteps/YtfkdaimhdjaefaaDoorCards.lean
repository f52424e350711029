/-
  DERIVED. GIVEN WITH THE SEED: THE CARDS: each row of YtfkdaimhdjaefaaDoorRows.lean that lists a variable, with what it lists TIED to the program's text (the seventh form; the later family's looks); each row that meets fmt, with fmt's text TOLD by the authors' own Lean function (tested against real Go, not proved from fmt's source: count such statements apart). THE CARD IS WHAT COUNTS. Prove the row's statement (the work); the ties are given (YtfkdaimhdjaefaaDoorTie.lean); close each card by the builder's one call (the guide's Derived/Test/ToyasCard.lean, 'card_holds'). Laid BY PROGRAM, IN A SANDBOX (cutbox-door.mjs). By AI agents, Wed Nov 11 2026. No macro, syntax, notation, axiom, sorry.
-/
import Derived.Test.YtfkdaimhdjaefaaDoorRows
import GoSem.ClaimSeven
namespace Go.Proofs.YtfkdaimhdjaefaaDoor
namespace Rows

/-- THE TIED CARD OF 'firebreaklaw13.CpuNames'. -/
def cpuNamesCard : Claim7 := { stood := { row := cpuNamesRow, standIns := [], harness := (true, "0454d4a9d4f6f37660f808b3f5864964b1c6b0c4aaafc34b3e4add15701b14c1"), looks := false }, kinds := [], alts := [], laidByText := true, laidKinds := [.data], laidTests := true, laidLooks := .later }
def CpuNamesCardSaid : Prop := Claim7.holds Tryd.pinned (.plain (OpenSpec.ofChange cpuNamesSpec)) cpuNamesCard

/-- THE TIED CARD OF 'firebreaklaw13.CpuSteps'. -/
def cpuStepsCard : Claim7 := { stood := { row := cpuStepsRow, standIns := [], harness := (true, "0454d4a9d4f6f37660f808b3f5864964b1c6b0c4aaafc34b3e4add15701b14c1"), looks := false }, kinds := [], alts := [], laidByText := true, laidKinds := [.data], laidTests := true, laidLooks := .later }
def CpuStepsCardSaid : Prop := Claim7.holds Tryd.pinned (.plain (OpenSpec.ofChange cpuStepsSpec)) cpuStepsCard

/-- THE TIED CARD OF 'firebreaklaw13.CpuChanges'. -/
def cpuChangesCard : Claim7 := { stood := { row := cpuChangesRow, standIns := [], harness := (true, "0454d4a9d4f6f37660f808b3f5864964b1c6b0c4aaafc34b3e4add15701b14c1"), looks := false }, kinds := [], alts := [], laidByText := true, laidKinds := [.data], laidTests := true, laidLooks := .later }
def CpuChangesCardSaid : Prop := Claim7.holds Tryd.pinned (.plain (OpenSpec.ofChange cpuChangesSpec)) cpuChangesCard

/-- THE SECOND FORM's CARD OF 'firebreaklaw13.CpuNames'. -/
def cpuNamesUptoCard : Claim7 := { stood := { row := cpuNamesUptoRow, standIns := [], harness := (true, "0454d4a9d4f6f37660f808b3f5864964b1c6b0c4aaafc34b3e4add15701b14c1"), looks := false }, kinds := [], alts := [], laidByText := true, laidKinds := [.data], laidTests := true, laidLooks := .later }
def CpuNamesUptoCardSaid : Prop := Claim7.holds Tryd.pinned (.plain (OpenSpec.upto cpuNamesSpec)) cpuNamesUptoCard

/-- THE SECOND FORM's CARD OF 'firebreaklaw13.CpuSteps'. -/
def cpuStepsUptoCard : Claim7 := { stood := { row := cpuStepsUptoRow, standIns := [], harness := (true, "0454d4a9d4f6f37660f808b3f5864964b1c6b0c4aaafc34b3e4add15701b14c1"), looks := false }, kinds := [], alts := [], laidByText := true, laidKinds := [.data], laidTests := true, laidLooks := .later }
def CpuStepsUptoCardSaid : Prop := Claim7.holds Tryd.pinned (.plain (OpenSpec.upto cpuStepsSpec)) cpuStepsUptoCard

/-- THE SECOND FORM's CARD OF 'firebreaklaw13.CpuChanges'. -/
def cpuChangesUptoCard : Claim7 := { stood := { row := cpuChangesUptoRow, standIns := [], harness := (true, "0454d4a9d4f6f37660f808b3f5864964b1c6b0c4aaafc34b3e4add15701b14c1"), looks := false }, kinds := [], alts := [], laidByText := true, laidKinds := [.data], laidTests := true, laidLooks := .later }
def CpuChangesUptoCardSaid : Prop := Claim7.holds Tryd.pinned (.plain (OpenSpec.upto cpuChangesSpec)) cpuChangesUptoCard
end Rows
end Go.Proofs.YtfkdaimhdjaefaaDoor
