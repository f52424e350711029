/-
  DERIVED. GIVEN WITH THE SEED: THE CARDS: each row of YtehapcoppghppaaDoorRows.lean that lists a variable, with what it lists TIED to the program's text (the seventh form; the later family's looks); each row that meets fmt, with fmt's text TOLD by the authors' own Lean function (tested against real Go, not proved from fmt's source: count such statements apart). THE CARD IS WHAT COUNTS. Prove the row's statement (the work); the ties are given (YtehapcoppghppaaDoorTie.lean); close each card by the builder's one call (the guide's Derived/Test/ToyasCard.lean, 'card_holds'). Laid BY PROGRAM, IN A SANDBOX (cutbox-door.mjs). By AI agents, Wed Nov 11 2026. No macro, syntax, notation, axiom, sorry.
-/
import Derived.Test.YtehapcoppghppaaDoorRows
import GoSem.ClaimSeven
namespace Go.Proofs.YtehapcoppghppaaDoor
namespace Rows

/-- THE TIED CARD OF 'firebreaklaw08.ValidNames'. -/
def validNamesCard : Claim7 := { stood := { row := validNamesRow, standIns := [], harness := (true, "d87564a79be84fcefe91e576fa9bf14bb9a61dd33a886502b769a09e79a9e9f6"), looks := false }, kinds := [], alts := [], laidByText := true, laidKinds := [.data], laidTests := true, laidLooks := .later }
def ValidNamesCardSaid : Prop := Claim7.holds Tryd.pinned (.plain (OpenSpec.ofChange validNamesSpec)) validNamesCard

/-- THE TIED CARD OF 'firebreaklaw08.ValidChecks'. -/
def validChecksCard : Claim7 := { stood := { row := validChecksRow, standIns := [], harness := (true, "d87564a79be84fcefe91e576fa9bf14bb9a61dd33a886502b769a09e79a9e9f6"), looks := false }, kinds := [], alts := [], laidByText := true, laidKinds := [.data], laidTests := true, laidLooks := .later }
def ValidChecksCardSaid : Prop := Claim7.holds Tryd.pinned (.plain (OpenSpec.ofChange validChecksSpec)) validChecksCard

/-- THE TIED CARD OF 'firebreaklaw08.ValidRuns'. -/
def validRunsCard : Claim7 := { stood := { row := validRunsRow, standIns := [], harness := (true, "d87564a79be84fcefe91e576fa9bf14bb9a61dd33a886502b769a09e79a9e9f6"), looks := false }, kinds := [], alts := [], laidByText := true, laidKinds := [.data], laidTests := true, laidLooks := .later }
def ValidRunsCardSaid : Prop := Claim7.holds Tryd.pinned (.plain (OpenSpec.ofChange validRunsSpec)) validRunsCard

/-- THE TIED CARD OF 'firebreaklaw08.ValidTight'. -/
def validTightCard : Claim7 := { stood := { row := validTightRow, standIns := [], harness := (true, "d87564a79be84fcefe91e576fa9bf14bb9a61dd33a886502b769a09e79a9e9f6"), looks := false }, kinds := [], alts := [], laidByText := true, laidKinds := [.data], laidTests := true, laidLooks := .later }
def ValidTightCardSaid : Prop := Claim7.holds Tryd.pinned (.plain (OpenSpec.ofChange validTightSpec)) validTightCard

/-- THE SECOND FORM's CARD OF 'firebreaklaw08.ValidNames'. -/
def validNamesUptoCard : Claim7 := { stood := { row := validNamesUptoRow, standIns := [], harness := (true, "d87564a79be84fcefe91e576fa9bf14bb9a61dd33a886502b769a09e79a9e9f6"), looks := false }, kinds := [], alts := [], laidByText := true, laidKinds := [.data], laidTests := true, laidLooks := .later }
def ValidNamesUptoCardSaid : Prop := Claim7.holds Tryd.pinned (.plain (OpenSpec.upto validNamesSpec)) validNamesUptoCard

/-- THE SECOND FORM's CARD OF 'firebreaklaw08.ValidChecks'. -/
def validChecksUptoCard : Claim7 := { stood := { row := validChecksUptoRow, standIns := [], harness := (true, "d87564a79be84fcefe91e576fa9bf14bb9a61dd33a886502b769a09e79a9e9f6"), looks := false }, kinds := [], alts := [], laidByText := true, laidKinds := [.data], laidTests := true, laidLooks := .later }
def ValidChecksUptoCardSaid : Prop := Claim7.holds Tryd.pinned (.plain (OpenSpec.upto validChecksSpec)) validChecksUptoCard

/-- THE SECOND FORM's CARD OF 'firebreaklaw08.ValidRuns'. -/
def validRunsUptoCard : Claim7 := { stood := { row := validRunsUptoRow, standIns := [], harness := (true, "d87564a79be84fcefe91e576fa9bf14bb9a61dd33a886502b769a09e79a9e9f6"), looks := false }, kinds := [], alts := [], laidByText := true, laidKinds := [.data], laidTests := true, laidLooks := .later }
def ValidRunsUptoCardSaid : Prop := Claim7.holds Tryd.pinned (.plain (OpenSpec.upto validRunsSpec)) validRunsUptoCard

/-- THE SECOND FORM's CARD OF 'firebreaklaw08.ValidTight'. -/
def validTightUptoCard : Claim7 := { stood := { row := validTightUptoRow, standIns := [], harness := (true, "d87564a79be84fcefe91e576fa9bf14bb9a61dd33a886502b769a09e79a9e9f6"), looks := false }, kinds := [], alts := [], laidByText := true, laidKinds := [.data], laidTests := true, laidLooks := .later }
def ValidTightUptoCardSaid : Prop := Claim7.holds Tryd.pinned (.plain (OpenSpec.upto validTightSpec)) validTightUptoCard
end Rows
end Go.Proofs.YtehapcoppghppaaDoor
