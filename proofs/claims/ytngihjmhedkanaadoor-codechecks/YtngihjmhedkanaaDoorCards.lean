/-
  DERIVED. GIVEN WITH THE SEED: THE CARDS: each row of YtngihjmhedkanaaDoorRows.lean that lists a variable, with what it lists TIED to the program's text (the seventh form; the later family's looks); each row that meets fmt, with fmt's text TOLD by the authors' own Lean function (tested against real Go, not proved from fmt's source: count such statements apart). THE CARD IS WHAT COUNTS. Prove the row's statement (the work); the ties are given (YtngihjmhedkanaaDoorTie.lean); close each card by the builder's one call (the guide's Derived/Test/ToyasCard.lean, 'card_holds'). Laid BY PROGRAM, IN A SANDBOX (cutbox-door.mjs). By AI agents, Wed Nov 11 2026. No macro, syntax, notation, axiom, sorry.
-/
import Derived.Test.YtngihjmhedkanaaDoorRows
import GoSem.ClaimSeven
namespace Go.Proofs.YtngihjmhedkanaaDoor
namespace Rows

/-- THE TIED CARD OF 'firebreaklaw06.CodeNames'. -/
def codeNamesCard : Claim7 := { stood := { row := codeNamesRow, standIns := [], harness := (true, "b2e9ecd2a1e5326a2abff6ad4c1f4b8ee9a46b7f066f64fd4fd01d28d4962ebd"), looks := false }, kinds := [], alts := [], laidByText := true, laidKinds := [.data], laidTests := true, laidLooks := .later }
def CodeNamesCardSaid : Prop := Claim7.holds Tryd.pinned (.plain (OpenSpec.ofChange codeNamesSpec)) codeNamesCard

/-- THE TIED CARD OF 'firebreaklaw06.CodeChecks'. -/
def codeChecksCard : Claim7 := { stood := { row := codeChecksRow, standIns := [], harness := (true, "b2e9ecd2a1e5326a2abff6ad4c1f4b8ee9a46b7f066f64fd4fd01d28d4962ebd"), looks := false }, kinds := [], alts := [], laidByText := true, laidKinds := [.data], laidTests := true, laidLooks := .later }
def CodeChecksCardSaid : Prop := Claim7.holds Tryd.pinned (.plain (OpenSpec.ofChange codeChecksSpec)) codeChecksCard

/-- THE TIED CARD OF 'firebreaklaw06.CodeMays'. -/
def codeMaysCard : Claim7 := { stood := { row := codeMaysRow, standIns := [], harness := (true, "b2e9ecd2a1e5326a2abff6ad4c1f4b8ee9a46b7f066f64fd4fd01d28d4962ebd"), looks := false }, kinds := [], alts := [], laidByText := true, laidKinds := [.data], laidTests := true, laidLooks := .later }
def CodeMaysCardSaid : Prop := Claim7.holds Tryd.pinned (.plain (OpenSpec.ofChange codeMaysSpec)) codeMaysCard

/-- THE TIED CARD OF 'firebreaklaw06.CodeReads'. -/
def codeReadsCard : Claim7 := { stood := { row := codeReadsRow, standIns := [], harness := (true, "b2e9ecd2a1e5326a2abff6ad4c1f4b8ee9a46b7f066f64fd4fd01d28d4962ebd"), looks := false }, kinds := [], alts := [], laidByText := true, laidKinds := [.data], laidTests := true, laidLooks := .later }
def CodeReadsCardSaid : Prop := Claim7.holds Tryd.pinned (.plain (OpenSpec.ofChange codeReadsSpec)) codeReadsCard

/-- THE TIED CARD OF 'firebreaklaw06.CodeReturns'. -/
def codeReturnsCard : Claim7 := { stood := { row := codeReturnsRow, standIns := [], harness := (true, "b2e9ecd2a1e5326a2abff6ad4c1f4b8ee9a46b7f066f64fd4fd01d28d4962ebd"), looks := false }, kinds := [], alts := [], laidByText := true, laidKinds := [.data], laidTests := true, laidLooks := .later }
def CodeReturnsCardSaid : Prop := Claim7.holds Tryd.pinned (.plain (OpenSpec.ofChange codeReturnsSpec)) codeReturnsCard

/-- THE TIED CARD OF 'firebreaklaw06.CodeApart'. -/
def codeApartCard : Claim7 := { stood := { row := codeApartRow, standIns := [], harness := (true, "b2e9ecd2a1e5326a2abff6ad4c1f4b8ee9a46b7f066f64fd4fd01d28d4962ebd"), looks := false }, kinds := [], alts := [], laidByText := true, laidKinds := [.data], laidTests := true, laidLooks := .later }
def CodeApartCardSaid : Prop := Claim7.holds Tryd.pinned (.plain (OpenSpec.ofChange codeApartSpec)) codeApartCard

/-- THE SECOND FORM's CARD OF 'firebreaklaw06.CodeNames'. -/
def codeNamesUptoCard : Claim7 := { stood := { row := codeNamesUptoRow, standIns := [], harness := (true, "b2e9ecd2a1e5326a2abff6ad4c1f4b8ee9a46b7f066f64fd4fd01d28d4962ebd"), looks := false }, kinds := [], alts := [], laidByText := true, laidKinds := [.data], laidTests := true, laidLooks := .later }
def CodeNamesUptoCardSaid : Prop := Claim7.holds Tryd.pinned (.plain (OpenSpec.upto codeNamesSpec)) codeNamesUptoCard

/-- THE SECOND FORM's CARD OF 'firebreaklaw06.CodeChecks'. -/
def codeChecksUptoCard : Claim7 := { stood := { row := codeChecksUptoRow, standIns := [], harness := (true, "b2e9ecd2a1e5326a2abff6ad4c1f4b8ee9a46b7f066f64fd4fd01d28d4962ebd"), looks := false }, kinds := [], alts := [], laidByText := true, laidKinds := [.data], laidTests := true, laidLooks := .later }
def CodeChecksUptoCardSaid : Prop := Claim7.holds Tryd.pinned (.plain (OpenSpec.upto codeChecksSpec)) codeChecksUptoCard

/-- THE SECOND FORM's CARD OF 'firebreaklaw06.CodeMays'. -/
def codeMaysUptoCard : Claim7 := { stood := { row := codeMaysUptoRow, standIns := [], harness := (true, "b2e9ecd2a1e5326a2abff6ad4c1f4b8ee9a46b7f066f64fd4fd01d28d4962ebd"), looks := false }, kinds := [], alts := [], laidByText := true, laidKinds := [.data], laidTests := true, laidLooks := .later }
def CodeMaysUptoCardSaid : Prop := Claim7.holds Tryd.pinned (.plain (OpenSpec.upto codeMaysSpec)) codeMaysUptoCard

/-- THE SECOND FORM's CARD OF 'firebreaklaw06.CodeReads'. -/
def codeReadsUptoCard : Claim7 := { stood := { row := codeReadsUptoRow, standIns := [], harness := (true, "b2e9ecd2a1e5326a2abff6ad4c1f4b8ee9a46b7f066f64fd4fd01d28d4962ebd"), looks := false }, kinds := [], alts := [], laidByText := true, laidKinds := [.data], laidTests := true, laidLooks := .later }
def CodeReadsUptoCardSaid : Prop := Claim7.holds Tryd.pinned (.plain (OpenSpec.upto codeReadsSpec)) codeReadsUptoCard

/-- THE SECOND FORM's CARD OF 'firebreaklaw06.CodeReturns'. -/
def codeReturnsUptoCard : Claim7 := { stood := { row := codeReturnsUptoRow, standIns := [], harness := (true, "b2e9ecd2a1e5326a2abff6ad4c1f4b8ee9a46b7f066f64fd4fd01d28d4962ebd"), looks := false }, kinds := [], alts := [], laidByText := true, laidKinds := [.data], laidTests := true, laidLooks := .later }
def CodeReturnsUptoCardSaid : Prop := Claim7.holds Tryd.pinned (.plain (OpenSpec.upto codeReturnsSpec)) codeReturnsUptoCard

/-- THE SECOND FORM's CARD OF 'firebreaklaw06.CodeApart'. -/
def codeApartUptoCard : Claim7 := { stood := { row := codeApartUptoRow, standIns := [], harness := (true, "b2e9ecd2a1e5326a2abff6ad4c1f4b8ee9a46b7f066f64fd4fd01d28d4962ebd"), looks := false }, kinds := [], alts := [], laidByText := true, laidKinds := [.data], laidTests := true, laidLooks := .later }
def CodeApartUptoCardSaid : Prop := Claim7.holds Tryd.pinned (.plain (OpenSpec.upto codeApartSpec)) codeApartUptoCard
end Rows
end Go.Proofs.YtngihjmhedkanaaDoor
