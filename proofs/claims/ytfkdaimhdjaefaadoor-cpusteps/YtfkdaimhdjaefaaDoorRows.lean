/-
  NARROWER THAN 'FOR EVERY INPUT', by the rows' own cells (each row's printed sentence says how): CpuNames: laid · CpuSteps: laid · CpuChanges: laid.
  DERIVED. THE GIVEN ROWS OF THIS SEAT. 3 by the template 'for every input the law returns true; each argument reads behind the call as it read before'; 0 by the template 'total and deterministic' (their statements: YtfkdaimhdjaefaaDoorTotals.lean).
  GIVEN WITH THE SEED: the statements are not yours to turn. If you find one false, say at which input.
  Laid BY PROGRAM, IN A SANDBOX (cutbox-rows.mjs): the forced cells as the released guide's own fill.sh prints them over the translation 77e52bd67d4b5280… (all of the seat's roots in one cut). By AI agents, Wed Nov 11 2026. No macro, syntax, notation, axiom, sorry.
-/
import Derived.Test.YtfkdaimhdjaefaaDoorChecked
import GoSem.Claim
import GoSem.ClaimJoined
import GoSem.ClaimMapViews
import Derived.JoinedTies
import Derived.KernelRfl
namespace Go.Proofs.YtfkdaimhdjaefaaDoor
/- THE CELL 'sum', in the pinned program and in every row, IS THE sha256 OF THE DUMP (.gsa) THAT YtfkdaimhdjaefaaDoorProg.lean LOADS. Nothing in Lean hashes anything: it is a label: what it is worth is what the hold of that sum in a sandbox is worth. -/
noncomputable def Tryd.pinned : Pinned := { name := "ytfkdaimhdjaefaadoor", sum := "77e52bd67d4b5280dec8c832474b7b6c7938aacb41ef9b4c259e053dc6d62aec", checked := Tryd.checked }
namespace Rows
def none {H : Type} : Left H := { results := [], args := [] }

/- WHAT THE LISTED PACKAGE-LEVEL VARIABLES READ AS WHEN THE CALL BEGINS. Each datum BY PROGRAM (the guide's laid-datum.mjs) off the statement by which the dump's own 'gosem.cut.vars' lays the variable. In a bare row this is a premise. The card (YtfkdaimhdjaefaaDoorCards.lean) ties it to the program's text. -/
def laid_firebreak_code_fields {H : Type} : DataW H := .agg [.lit (.int .u8 0), .lit (.int .u8 9), .lit (.int .u8 3), .lit (.int .u8 7), .lit (.int .u8 7), .lit (.int .u8 7), .lit (.int .u8 7), .lit (.int .u8 7), .lit (.int .u8 7), .lit (.int .u8 7), .lit (.int .u8 7), .lit (.int .u8 7), .lit (.int .u8 7), .lit (.int .u8 7), .lit (.int .u8 7), .lit (.int .u8 7), .lit (.int .u8 7), .lit (.int .u8 7), .lit (.int .u8 7), .lit (.int .u8 7), .lit (.int .u8 3), .lit (.int .u8 3), .lit (.int .u8 8), .lit (.int .u8 9), .lit (.int .u8 7), .lit (.int .u8 3), .lit (.int .u8 3), .lit (.int .u8 1), .lit (.int .u8 1), .lit (.int .u8 8), .lit (.int .u8 8), .lit (.int .u8 1), .lit (.int .u8 1), .lit (.int .u8 1)]

/-- 'firebreaklaw13.CpuNames': WHATEVER THE INPUT: true; the input reads as it did. -/
def cpuNamesSpec : ChangeSpec := { name := "cpuNames", fn := fun _ => fun
  | [] => { results := [.lit (.bool true)], args := [] }
  | _ => none }
def cpuNamesRow : OpenClaim := { program := "ytfkdaimhdjaefaadoor", sum := "77e52bd67d4b5280dec8c832474b7b6c7938aacb41ef9b4c259e053dc6d62aec", func := "firebreak/firebreaklaw13.CpuNames", spec := "cpuNames", inPlace := ["math.Float64frombits", "math.Float64bits"], unfollowed := true, recurses := true, named := ["firebreak/code.fields"], apart := false, laid := [("firebreak/code.fields", laid_firebreak_code_fields)] }
def CpuNamesSaid : Prop := cpuNamesRow.holds Tryd.pinned (OpenSpec.ofChange cpuNamesSpec)

/-- ITS FALSE NEIGHBOUR: 'it returns false'. Refute it at one input. -/
def cpuNamesWrong : ChangeSpec := { name := "cpuNames", fn := fun _ => fun
  | [] => { results := [.lit (.bool false)], args := [] }
  | _ => none }
def CpuNamesWrongFalsely : Prop := cpuNamesRow.holds Tryd.pinned (OpenSpec.ofChange cpuNamesWrong)

/-- 'firebreaklaw13.CpuSteps': WHATEVER THE INPUT: true; the input reads as it did. -/
def cpuStepsSpec : ChangeSpec := { name := "cpuSteps", fn := fun _ => fun
  | [d1, d2, d3, d4, d5, d6] => { results := [.lit (.bool true)], args := [d1, d2, d3, d4, d5, d6] }
  | _ => none }
def cpuStepsRow : OpenClaim := { program := "ytfkdaimhdjaefaadoor", sum := "77e52bd67d4b5280dec8c832474b7b6c7938aacb41ef9b4c259e053dc6d62aec", func := "firebreak/firebreaklaw13.CpuSteps", spec := "cpuSteps", inPlace := ["math.Float64frombits", "math.Float64bits"], unfollowed := true, recurses := true, named := ["firebreak/code.fields"], apart := false, laid := [("firebreak/code.fields", laid_firebreak_code_fields)] }
def CpuStepsSaid : Prop := cpuStepsRow.holds Tryd.pinned (OpenSpec.ofChange cpuStepsSpec)

/-- ITS FALSE NEIGHBOUR: 'it returns false'. Refute it at one input. -/
def cpuStepsWrong : ChangeSpec := { name := "cpuSteps", fn := fun _ => fun
  | [d1, d2, d3, d4, d5, d6] => { results := [.lit (.bool false)], args := [d1, d2, d3, d4, d5, d6] }
  | _ => none }
def CpuStepsWrongFalsely : Prop := cpuStepsRow.holds Tryd.pinned (OpenSpec.ofChange cpuStepsWrong)

/-- 'firebreaklaw13.CpuChanges': WHATEVER THE INPUT: true; the input reads as it did. -/
def cpuChangesSpec : ChangeSpec := { name := "cpuChanges", fn := fun _ => fun
  | [d1, d2, d3, d4] => { results := [.lit (.bool true)], args := [d1, d2, d3, d4] }
  | _ => none }
def cpuChangesRow : OpenClaim := { program := "ytfkdaimhdjaefaadoor", sum := "77e52bd67d4b5280dec8c832474b7b6c7938aacb41ef9b4c259e053dc6d62aec", func := "firebreak/firebreaklaw13.CpuChanges", spec := "cpuChanges", inPlace := ["math.Float64frombits", "math.Float64bits"], unfollowed := true, recurses := true, named := ["firebreak/code.fields"], apart := false, laid := [("firebreak/code.fields", laid_firebreak_code_fields)] }
def CpuChangesSaid : Prop := cpuChangesRow.holds Tryd.pinned (OpenSpec.ofChange cpuChangesSpec)

/-- ITS FALSE NEIGHBOUR: 'it returns false'. Refute it at one input. -/
def cpuChangesWrong : ChangeSpec := { name := "cpuChanges", fn := fun _ => fun
  | [d1, d2, d3, d4] => { results := [.lit (.bool false)], args := [d1, d2, d3, d4] }
  | _ => none }
def CpuChangesWrongFalsely : Prop := cpuChangesRow.holds Tryd.pinned (OpenSpec.ofChange cpuChangesWrong)

/- THE SECOND FORM. 'bulk': how many values and letters a reading holds, each counted each time it is reached (what is shared counts as often as it is met; a slice's spare places count too). A statement '..UptoSaid' is the law's where the arguments, and the package variables that the reading takes, are together of bulk at most 1048576: NARROWER than '..Said'. Prove '..Said' where nothing that the law and all that it calls make is longer than what came in: it says more and counts as full. Else prove '..UptoSaid'. A law counts once. -/
mutual
def uptoBulk {H : Type} : DataW H → Nat
  | .lit (.string bytes) => bytes.length + 1
  | .lit _ => 1
  | .nil => 1
  | .ptr d => uptoBulk d + 1
  | .slice elems spare => uptoBulkAll elems + uptoBulkAll spare + 1
  | .agg parts => uptoBulkAll parts + 1
  | .iface _ d => uptoBulk d + 1
  | .map entries => uptoBulkEntries entries + 1
  | .held _ => 1
def uptoBulkAll {H : Type} : List (DataW H) → Nat
  | [] => 0
  | d :: r => uptoBulk d + uptoBulkAll r
def uptoBulkEntries {H : Type} : List (Lit × DataW H) → Nat
  | [] => 0
  | x :: r => uptoBulkEntry x + uptoBulkEntries r
def uptoBulkEntry {H : Type} : Lit × DataW H → Nat
  | (.string bytes, d) => bytes.length + uptoBulk d + 1
  | (_, d) => uptoBulk d + 1
 end
def uptoSmall : (H : Type) → List (DataW H) → Bool := fun _ ds => decide (uptoBulkAll ds ≤ 1048576)
def OpenSpec.upto (s : _root_.Go.ChangeSpec) : _root_.Go.OpenSpec := { _root_.Go.OpenSpec.ofChange s with cond := some uptoSmall }

/-- 'firebreaklaw13.CpuNames', WHERE WHAT IT READS IS OF BULK AT MOST 1048576: true; the input reads as it did. -/
def cpuNamesUptoRow : OpenClaim := { program := "ytfkdaimhdjaefaadoor", sum := "77e52bd67d4b5280dec8c832474b7b6c7938aacb41ef9b4c259e053dc6d62aec", func := "firebreak/firebreaklaw13.CpuNames", spec := "cpuNames", inPlace := ["math.Float64frombits", "math.Float64bits"], unfollowed := true, recurses := true, named := ["firebreak/code.fields"], apart := false, laid := [("firebreak/code.fields", laid_firebreak_code_fields)], narrowed := true }
def CpuNamesUptoSaid : Prop := cpuNamesUptoRow.holds Tryd.pinned (OpenSpec.upto cpuNamesSpec)

/-- 'firebreaklaw13.CpuSteps', WHERE WHAT IT READS IS OF BULK AT MOST 1048576: true; the input reads as it did. -/
def cpuStepsUptoRow : OpenClaim := { program := "ytfkdaimhdjaefaadoor", sum := "77e52bd67d4b5280dec8c832474b7b6c7938aacb41ef9b4c259e053dc6d62aec", func := "firebreak/firebreaklaw13.CpuSteps", spec := "cpuSteps", inPlace := ["math.Float64frombits", "math.Float64bits"], unfollowed := true, recurses := true, named := ["firebreak/code.fields"], apart := false, laid := [("firebreak/code.fields", laid_firebreak_code_fields)], narrowed := true }
def CpuStepsUptoSaid : Prop := cpuStepsUptoRow.holds Tryd.pinned (OpenSpec.upto cpuStepsSpec)

/-- 'firebreaklaw13.CpuChanges', WHERE WHAT IT READS IS OF BULK AT MOST 1048576: true; the input reads as it did. -/
def cpuChangesUptoRow : OpenClaim := { program := "ytfkdaimhdjaefaadoor", sum := "77e52bd67d4b5280dec8c832474b7b6c7938aacb41ef9b4c259e053dc6d62aec", func := "firebreak/firebreaklaw13.CpuChanges", spec := "cpuChanges", inPlace := ["math.Float64frombits", "math.Float64bits"], unfollowed := true, recurses := true, named := ["firebreak/code.fields"], apart := false, laid := [("firebreak/code.fields", laid_firebreak_code_fields)], narrowed := true }
def CpuChangesUptoSaid : Prop := cpuChangesUptoRow.holds Tryd.pinned (OpenSpec.upto cpuChangesSpec)

end Rows
end Go.Proofs.YtfkdaimhdjaefaaDoor
