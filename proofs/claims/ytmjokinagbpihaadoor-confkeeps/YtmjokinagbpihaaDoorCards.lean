/-
  DERIVED. GIVEN WITH THE SEED: THE CARDS: each row of YtmjokinagbpihaaDoorRows.lean that lists a variable, with what it lists TIED to the program's text (the seventh form; the later family's looks); each row that meets fmt, with fmt's text TOLD by the authors' own Lean function (tested against real Go, not proved from fmt's source: count such statements apart). THE CARD IS WHAT COUNTS. Prove the row's statement (the work); the ties are given (YtmjokinagbpihaaDoorTie.lean); close each card by the builder's one call (the guide's Derived/Test/ToyasCard.lean, 'card_holds'). Laid BY PROGRAM, IN A SANDBOX (cutbox-door.mjs). By AI agents, Wed Nov 11 2026. No macro, syntax, notation, axiom, sorry.
-/
import Derived.Test.YtmjokinagbpihaaDoorRows
import GoSem.ClaimSeven
namespace Go.Proofs.YtmjokinagbpihaaDoor
namespace Rows

/-- THE TIED CARD OF 'firebreaklaw14.ConfNames'. -/
def confNamesCard : Claim7 := { stood := { row := confNamesRow, standIns := [], harness := (true, "28de5b303903ce2255e2490bbe707d06d484998b102d66e81244b159db477a10"), looks := false }, kinds := [], alts := [], laidByText := true, laidKinds := [.data, .data], laidTests := true, laidLooks := .later }
def ConfNamesCardSaid : Prop := Claim7.holds Tryd.pinned (.plain (OpenSpec.ofChange confNamesSpec)) confNamesCard

/-- THE TIED CARD OF 'firebreaklaw14.ConfMays'. -/
def confMaysCard : Claim7 := { stood := { row := confMaysRow, standIns := [], harness := (true, "28de5b303903ce2255e2490bbe707d06d484998b102d66e81244b159db477a10"), looks := false }, kinds := [], alts := [], laidByText := true, laidKinds := [.data, .data], laidTests := true, laidLooks := .later }
def ConfMaysCardSaid : Prop := Claim7.holds Tryd.pinned (.plain (OpenSpec.ofChange confMaysSpec)) confMaysCard

/-- THE TIED CARD OF 'firebreaklaw14.ConfReads'. -/
def confReadsCard : Claim7 := { stood := { row := confReadsRow, standIns := [], harness := (true, "28de5b303903ce2255e2490bbe707d06d484998b102d66e81244b159db477a10"), looks := false }, kinds := [], alts := [], laidByText := true, laidKinds := [.data, .data], laidTests := true, laidLooks := .later }
def ConfReadsCardSaid : Prop := Claim7.holds Tryd.pinned (.plain (OpenSpec.ofChange confReadsSpec)) confReadsCard

/-- THE TIED CARD OF 'firebreaklaw14.ConfReturns'. -/
def confReturnsCard : Claim7 := { stood := { row := confReturnsRow, standIns := [], harness := (true, "28de5b303903ce2255e2490bbe707d06d484998b102d66e81244b159db477a10"), looks := false }, kinds := [], alts := [], laidByText := true, laidKinds := [.data, .data], laidTests := true, laidLooks := .later }
def ConfReturnsCardSaid : Prop := Claim7.holds Tryd.pinned (.plain (OpenSpec.ofChange confReturnsSpec)) confReturnsCard

/-- THE TIED CARD OF 'firebreaklaw14.ConfCut'. -/
def confCutCard : Claim7 := { stood := { row := confCutRow, standIns := [], harness := (true, "28de5b303903ce2255e2490bbe707d06d484998b102d66e81244b159db477a10"), looks := false }, kinds := [], alts := [], laidByText := true, laidKinds := [.data, .data], laidTests := true, laidLooks := .later }
def ConfCutCardSaid : Prop := Claim7.holds Tryd.pinned (.plain (OpenSpec.ofChange confCutSpec)) confCutCard

/-- THE TIED CARD OF 'firebreaklaw14.ConfKeeps'. -/
def confKeepsCard : Claim7 := { stood := { row := confKeepsRow, standIns := [], harness := (true, "28de5b303903ce2255e2490bbe707d06d484998b102d66e81244b159db477a10"), looks := false }, kinds := [], alts := [], laidByText := true, laidKinds := [.data, .data], laidTests := true, laidLooks := .later }
def ConfKeepsCardSaid : Prop := Claim7.holds Tryd.pinned (.plain (OpenSpec.ofChange confKeepsSpec)) confKeepsCard

/-- THE SECOND FORM's CARD OF 'firebreaklaw14.ConfNames'. -/
def confNamesUptoCard : Claim7 := { stood := { row := confNamesUptoRow, standIns := [], harness := (true, "28de5b303903ce2255e2490bbe707d06d484998b102d66e81244b159db477a10"), looks := false }, kinds := [], alts := [], laidByText := true, laidKinds := [.data, .data], laidTests := true, laidLooks := .later }
def ConfNamesUptoCardSaid : Prop := Claim7.holds Tryd.pinned (.plain (OpenSpec.upto confNamesSpec)) confNamesUptoCard

/-- THE SECOND FORM's CARD OF 'firebreaklaw14.ConfMays'. -/
def confMaysUptoCard : Claim7 := { stood := { row := confMaysUptoRow, standIns := [], harness := (true, "28de5b303903ce2255e2490bbe707d06d484998b102d66e81244b159db477a10"), looks := false }, kinds := [], alts := [], laidByText := true, laidKinds := [.data, .data], laidTests := true, laidLooks := .later }
def ConfMaysUptoCardSaid : Prop := Claim7.holds Tryd.pinned (.plain (OpenSpec.upto confMaysSpec)) confMaysUptoCard

/-- THE SECOND FORM's CARD OF 'firebreaklaw14.ConfReads'. -/
def confReadsUptoCard : Claim7 := { stood := { row := confReadsUptoRow, standIns := [], harness := (true, "28de5b303903ce2255e2490bbe707d06d484998b102d66e81244b159db477a10"), looks := false }, kinds := [], alts := [], laidByText := true, laidKinds := [.data, .data], laidTests := true, laidLooks := .later }
def ConfReadsUptoCardSaid : Prop := Claim7.holds Tryd.pinned (.plain (OpenSpec.upto confReadsSpec)) confReadsUptoCard

/-- THE SECOND FORM's CARD OF 'firebreaklaw14.ConfReturns'. -/
def confReturnsUptoCard : Claim7 := { stood := { row := confReturnsUptoRow, standIns := [], harness := (true, "28de5b303903ce2255e2490bbe707d06d484998b102d66e81244b159db477a10"), looks := false }, kinds := [], alts := [], laidByText := true, laidKinds := [.data, .data], laidTests := true, laidLooks := .later }
def ConfReturnsUptoCardSaid : Prop := Claim7.holds Tryd.pinned (.plain (OpenSpec.upto confReturnsSpec)) confReturnsUptoCard

/-- THE SECOND FORM's CARD OF 'firebreaklaw14.ConfCut'. -/
def confCutUptoCard : Claim7 := { stood := { row := confCutUptoRow, standIns := [], harness := (true, "28de5b303903ce2255e2490bbe707d06d484998b102d66e81244b159db477a10"), looks := false }, kinds := [], alts := [], laidByText := true, laidKinds := [.data, .data], laidTests := true, laidLooks := .later }
def ConfCutUptoCardSaid : Prop := Claim7.holds Tryd.pinned (.plain (OpenSpec.upto confCutSpec)) confCutUptoCard

/-- THE SECOND FORM's CARD OF 'firebreaklaw14.ConfKeeps'. -/
def confKeepsUptoCard : Claim7 := { stood := { row := confKeepsUptoRow, standIns := [], harness := (true, "28de5b303903ce2255e2490bbe707d06d484998b102d66e81244b159db477a10"), looks := false }, kinds := [], alts := [], laidByText := true, laidKinds := [.data, .data], laidTests := true, laidLooks := .later }
def ConfKeepsUptoCardSaid : Prop := Claim7.holds Tryd.pinned (.plain (OpenSpec.upto confKeepsSpec)) confKeepsUptoCard
end Rows
end Go.Proofs.YtmjokinagbpihaaDoor
