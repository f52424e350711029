/-
  DERIVED. GIVEN WITH THE SEED: THE CARDS: each row of YthnjeejnnhadeaaGreatDoorRows.lean that lists a variable, with what it lists TIED to the program's text (the seventh form; the later family's looks); each row that meets fmt, with fmt's text TOLD by the authors' own Lean function (tested against real Go, not proved from fmt's source: count such statements apart). THE CARD IS WHAT COUNTS. Prove the row's statement (the work); the ties are given (YthnjeejnnhadeaaGreatDoorTie.lean); close each card by the builder's one call (the guide's Derived/Test/ToyasCard.lean, 'card_holds'). Laid BY PROGRAM, IN A SANDBOX (cutbox-door.mjs). By AI agents, Wed Nov 11 2026. No macro, syntax, notation, axiom, sorry.
-/
import Derived.Test.YthnjeejnnhadeaaGreatDoorRows
import GoSem.ClaimSeven
namespace Go.Proofs.YthnjeejnnhadeaaGreatDoor
namespace Rows

/-- THE TIED CARD OF 'firebreaklaw15.MachineNames'. -/
def machineNamesCard : Claim7 := { stood := { row := machineNamesRow, standIns := [], harness := (true, "94cf712afc3987ccbc56b5841c912dbdafaadc528d350604f94c42e668df9904"), looks := true }, kinds := [], alts := [], laidByText := true, laidKinds := [.data, .data], laidTests := true, laidLooks := .later }
def MachineNamesCardSaid : Prop := Claim7.holds Tryz.pinned (.plain (OpenSpec.ofChange machineNamesSpec)) machineNamesCard

/-- THE TIED CARD OF 'firebreaklaw15.MachineDoes'. -/
def machineDoesCard : Claim7 := { stood := { row := machineDoesRow, standIns := [], harness := (true, "94cf712afc3987ccbc56b5841c912dbdafaadc528d350604f94c42e668df9904"), looks := true }, kinds := [], alts := [], laidByText := true, laidKinds := [.data, .data], laidTests := true, laidLooks := .later }
def MachineDoesCardSaid : Prop := Claim7.holds Tryz.pinned (.plain (OpenSpec.ofChange machineDoesSpec)) machineDoesCard

/-- THE TIED CARD OF 'firebreaklaw15.MachineLays'. -/
def machineLaysCard : Claim7 := { stood := { row := machineLaysRow, standIns := [], harness := (true, "94cf712afc3987ccbc56b5841c912dbdafaadc528d350604f94c42e668df9904"), looks := true }, kinds := [], alts := [], laidByText := true, laidKinds := [.data, .data], laidTests := true, laidLooks := .later }
def MachineLaysCardSaid : Prop := Claim7.holds Tryz.pinned (.plain (OpenSpec.ofChange machineLaysSpec)) machineLaysCard

/-- THE TIED CARD OF 'firebreaklaw15.MachineStands'. -/
def machineStandsCard : Claim7 := { stood := { row := machineStandsRow, standIns := [], harness := (true, "94cf712afc3987ccbc56b5841c912dbdafaadc528d350604f94c42e668df9904"), looks := true }, kinds := [], alts := [], laidByText := true, laidKinds := [.data, .data], laidTests := true, laidLooks := .later }
def MachineStandsCardSaid : Prop := Claim7.holds Tryz.pinned (.plain (OpenSpec.ofChange machineStandsSpec)) machineStandsCard

/-- THE SECOND FORM's CARD OF 'firebreaklaw15.MachineNames'. -/
def machineNamesUptoCard : Claim7 := { stood := { row := machineNamesUptoRow, standIns := [], harness := (true, "94cf712afc3987ccbc56b5841c912dbdafaadc528d350604f94c42e668df9904"), looks := true }, kinds := [], alts := [], laidByText := true, laidKinds := [.data, .data], laidTests := true, laidLooks := .later }
def MachineNamesUptoCardSaid : Prop := Claim7.holds Tryz.pinned (.plain (OpenSpec.upto machineNamesSpec)) machineNamesUptoCard

/-- THE SECOND FORM's CARD OF 'firebreaklaw15.MachineDoes'. -/
def machineDoesUptoCard : Claim7 := { stood := { row := machineDoesUptoRow, standIns := [], harness := (true, "94cf712afc3987ccbc56b5841c912dbdafaadc528d350604f94c42e668df9904"), looks := true }, kinds := [], alts := [], laidByText := true, laidKinds := [.data, .data], laidTests := true, laidLooks := .later }
def MachineDoesUptoCardSaid : Prop := Claim7.holds Tryz.pinned (.plain (OpenSpec.upto machineDoesSpec)) machineDoesUptoCard

/-- THE SECOND FORM's CARD OF 'firebreaklaw15.MachineLays'. -/
def machineLaysUptoCard : Claim7 := { stood := { row := machineLaysUptoRow, standIns := [], harness := (true, "94cf712afc3987ccbc56b5841c912dbdafaadc528d350604f94c42e668df9904"), looks := true }, kinds := [], alts := [], laidByText := true, laidKinds := [.data, .data], laidTests := true, laidLooks := .later }
def MachineLaysUptoCardSaid : Prop := Claim7.holds Tryz.pinned (.plain (OpenSpec.upto machineLaysSpec)) machineLaysUptoCard

/-- THE SECOND FORM's CARD OF 'firebreaklaw15.MachineStands'. -/
def machineStandsUptoCard : Claim7 := { stood := { row := machineStandsUptoRow, standIns := [], harness := (true, "94cf712afc3987ccbc56b5841c912dbdafaadc528d350604f94c42e668df9904"), looks := true }, kinds := [], alts := [], laidByText := true, laidKinds := [.data, .data], laidTests := true, laidLooks := .later }
def MachineStandsUptoCardSaid : Prop := Claim7.holds Tryz.pinned (.plain (OpenSpec.upto machineStandsSpec)) machineStandsUptoCard
end Rows
end Go.Proofs.YthnjeejnnhadeaaGreatDoor
