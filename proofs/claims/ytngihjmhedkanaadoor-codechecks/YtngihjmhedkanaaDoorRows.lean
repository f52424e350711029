/-
  NARROWER THAN 'FOR EVERY INPUT', by the rows' own cells (each row's printed sentence says how): CodeNames: laid · CodeChecks: laid · CodeMays: laid · CodeReads: laid · CodeReturns: laid · CodeApart: laid.
  DERIVED. THE GIVEN ROWS OF THIS SEAT. 6 by the template 'for every input the law returns true; each argument reads behind the call as it read before'; 0 by the template 'total and deterministic' (their statements: YtngihjmhedkanaaDoorTotals.lean).
  GIVEN WITH THE SEED: the statements are not yours to turn. If you find one false, say at which input.
  Laid BY PROGRAM, IN A SANDBOX (cutbox-rows.mjs): the forced cells as the released guide's own fill.sh prints them over the translation c00f10b5d55014af… (all of the seat's roots in one cut). By AI agents, Wed Nov 11 2026. No macro, syntax, notation, axiom, sorry.
-/
import Derived.Test.YtngihjmhedkanaaDoorChecked
import GoSem.Claim
import GoSem.ClaimJoined
import GoSem.ClaimMapViews
import Derived.JoinedTies
import Derived.KernelRfl
namespace Go.Proofs.YtngihjmhedkanaaDoor
/- THE CELL 'sum', in the pinned program and in every row, IS THE sha256 OF THE DUMP (.gsa) THAT YtngihjmhedkanaaDoorProg.lean LOADS. Nothing in Lean hashes anything: it is a label: what it is worth is what the hold of that sum in a sandbox is worth. -/
noncomputable def Tryd.pinned : Pinned := { name := "ytngihjmhedkanaadoor", sum := "c00f10b5d55014afd200b21ae707584a75ca765df9678da9f12f5113edecba80", checked := Tryd.checked }
namespace Rows
def none {H : Type} : Left H := { results := [], args := [] }

/- WHAT THE LISTED PACKAGE-LEVEL VARIABLES READ AS WHEN THE CALL BEGINS. Each datum BY PROGRAM (the guide's laid-datum.mjs) off the statement by which the dump's own 'gosem.cut.vars' lays the variable. In a bare row this is a premise. The card (YtngihjmhedkanaaDoorCards.lean) ties it to the program's text. -/
def laid_firebreak_code_fields {H : Type} : DataW H := .agg [.lit (.int .u8 0), .lit (.int .u8 9), .lit (.int .u8 3), .lit (.int .u8 7), .lit (.int .u8 7), .lit (.int .u8 7), .lit (.int .u8 7), .lit (.int .u8 7), .lit (.int .u8 7), .lit (.int .u8 7), .lit (.int .u8 7), .lit (.int .u8 7), .lit (.int .u8 7), .lit (.int .u8 7), .lit (.int .u8 7), .lit (.int .u8 7), .lit (.int .u8 7), .lit (.int .u8 7), .lit (.int .u8 7), .lit (.int .u8 7), .lit (.int .u8 3), .lit (.int .u8 3), .lit (.int .u8 8), .lit (.int .u8 9), .lit (.int .u8 7), .lit (.int .u8 3), .lit (.int .u8 3), .lit (.int .u8 1), .lit (.int .u8 1), .lit (.int .u8 8), .lit (.int .u8 8), .lit (.int .u8 1), .lit (.int .u8 1), .lit (.int .u8 1)]

/-- 'firebreaklaw06.CodeNames': WHATEVER THE INPUT: true; the input reads as it did. -/
def codeNamesSpec : ChangeSpec := { name := "codeNames", fn := fun _ => fun
  | [] => { results := [.lit (.bool true)], args := [] }
  | _ => none }
def codeNamesRow : OpenClaim := { program := "ytngihjmhedkanaadoor", sum := "c00f10b5d55014afd200b21ae707584a75ca765df9678da9f12f5113edecba80", func := "firebreak/firebreaklaw06.CodeNames", spec := "codeNames", named := ["firebreak/code.fields"], apart := false, laid := [("firebreak/code.fields", laid_firebreak_code_fields)] }
def CodeNamesSaid : Prop := codeNamesRow.holds Tryd.pinned (OpenSpec.ofChange codeNamesSpec)

/-- ITS FALSE NEIGHBOUR: 'it returns false'. Refute it at one input. -/
def codeNamesWrong : ChangeSpec := { name := "codeNames", fn := fun _ => fun
  | [] => { results := [.lit (.bool false)], args := [] }
  | _ => none }
def CodeNamesWrongFalsely : Prop := codeNamesRow.holds Tryd.pinned (OpenSpec.ofChange codeNamesWrong)

/-- 'firebreaklaw06.CodeChecks': WHATEVER THE INPUT: true; the input reads as it did. -/
def codeChecksSpec : ChangeSpec := { name := "codeChecks", fn := fun _ => fun
  | [d1, d2, d3, d4] => { results := [.lit (.bool true)], args := [d1, d2, d3, d4] }
  | _ => none }
def codeChecksRow : OpenClaim := { program := "ytngihjmhedkanaadoor", sum := "c00f10b5d55014afd200b21ae707584a75ca765df9678da9f12f5113edecba80", func := "firebreak/firebreaklaw06.CodeChecks", spec := "codeChecks", named := ["firebreak/code.fields"], apart := false, laid := [("firebreak/code.fields", laid_firebreak_code_fields)] }
def CodeChecksSaid : Prop := codeChecksRow.holds Tryd.pinned (OpenSpec.ofChange codeChecksSpec)

/-- ITS FALSE NEIGHBOUR: 'it returns false'. Refute it at one input. -/
def codeChecksWrong : ChangeSpec := { name := "codeChecks", fn := fun _ => fun
  | [d1, d2, d3, d4] => { results := [.lit (.bool false)], args := [d1, d2, d3, d4] }
  | _ => none }
def CodeChecksWrongFalsely : Prop := codeChecksRow.holds Tryd.pinned (OpenSpec.ofChange codeChecksWrong)

/-- 'firebreaklaw06.CodeMays': WHATEVER THE INPUT: true; the input reads as it did. -/
def codeMaysSpec : ChangeSpec := { name := "codeMays", fn := fun _ => fun
  | [d1, d2] => { results := [.lit (.bool true)], args := [d1, d2] }
  | _ => none }
def codeMaysRow : OpenClaim := { program := "ytngihjmhedkanaadoor", sum := "c00f10b5d55014afd200b21ae707584a75ca765df9678da9f12f5113edecba80", func := "firebreak/firebreaklaw06.CodeMays", spec := "codeMays", named := ["firebreak/code.fields"], apart := false, laid := [("firebreak/code.fields", laid_firebreak_code_fields)] }
def CodeMaysSaid : Prop := codeMaysRow.holds Tryd.pinned (OpenSpec.ofChange codeMaysSpec)

/-- ITS FALSE NEIGHBOUR: 'it returns false'. Refute it at one input. -/
def codeMaysWrong : ChangeSpec := { name := "codeMays", fn := fun _ => fun
  | [d1, d2] => { results := [.lit (.bool false)], args := [d1, d2] }
  | _ => none }
def CodeMaysWrongFalsely : Prop := codeMaysRow.holds Tryd.pinned (OpenSpec.ofChange codeMaysWrong)

/-- 'firebreaklaw06.CodeReads': WHATEVER THE INPUT: true; the input reads as it did. -/
def codeReadsSpec : ChangeSpec := { name := "codeReads", fn := fun _ => fun
  | [d] => { results := [.lit (.bool true)], args := [d] }
  | _ => none }
def codeReadsRow : OpenClaim := { program := "ytngihjmhedkanaadoor", sum := "c00f10b5d55014afd200b21ae707584a75ca765df9678da9f12f5113edecba80", func := "firebreak/firebreaklaw06.CodeReads", spec := "codeReads", named := ["firebreak/code.fields"], apart := false, laid := [("firebreak/code.fields", laid_firebreak_code_fields)] }
def CodeReadsSaid : Prop := codeReadsRow.holds Tryd.pinned (OpenSpec.ofChange codeReadsSpec)

/-- ITS FALSE NEIGHBOUR: 'it returns false'. Refute it at one input. -/
def codeReadsWrong : ChangeSpec := { name := "codeReads", fn := fun _ => fun
  | [d] => { results := [.lit (.bool false)], args := [d] }
  | _ => none }
def CodeReadsWrongFalsely : Prop := codeReadsRow.holds Tryd.pinned (OpenSpec.ofChange codeReadsWrong)

/-- 'firebreaklaw06.CodeReturns': WHATEVER THE INPUT: true; the input reads as it did. -/
def codeReturnsSpec : ChangeSpec := { name := "codeReturns", fn := fun _ => fun
  | [d1, d2] => { results := [.lit (.bool true)], args := [d1, d2] }
  | _ => none }
def codeReturnsRow : OpenClaim := { program := "ytngihjmhedkanaadoor", sum := "c00f10b5d55014afd200b21ae707584a75ca765df9678da9f12f5113edecba80", func := "firebreak/firebreaklaw06.CodeReturns", spec := "codeReturns", named := ["firebreak/code.fields"], apart := false, laid := [("firebreak/code.fields", laid_firebreak_code_fields)] }
def CodeReturnsSaid : Prop := codeReturnsRow.holds Tryd.pinned (OpenSpec.ofChange codeReturnsSpec)

/-- ITS FALSE NEIGHBOUR: 'it returns false'. Refute it at one input. -/
def codeReturnsWrong : ChangeSpec := { name := "codeReturns", fn := fun _ => fun
  | [d1, d2] => { results := [.lit (.bool false)], args := [d1, d2] }
  | _ => none }
def CodeReturnsWrongFalsely : Prop := codeReturnsRow.holds Tryd.pinned (OpenSpec.ofChange codeReturnsWrong)

/-- 'firebreaklaw06.CodeApart': WHATEVER THE INPUT: true; the input reads as it did. -/
def codeApartSpec : ChangeSpec := { name := "codeApart", fn := fun _ => fun
  | [d1, d2] => { results := [.lit (.bool true)], args := [d1, d2] }
  | _ => none }
def codeApartRow : OpenClaim := { program := "ytngihjmhedkanaadoor", sum := "c00f10b5d55014afd200b21ae707584a75ca765df9678da9f12f5113edecba80", func := "firebreak/firebreaklaw06.CodeApart", spec := "codeApart", named := ["firebreak/code.fields"], apart := false, laid := [("firebreak/code.fields", laid_firebreak_code_fields)] }
def CodeApartSaid : Prop := codeApartRow.holds Tryd.pinned (OpenSpec.ofChange codeApartSpec)

/-- ITS FALSE NEIGHBOUR: 'it returns false'. Refute it at one input. -/
def codeApartWrong : ChangeSpec := { name := "codeApart", fn := fun _ => fun
  | [d1, d2] => { results := [.lit (.bool false)], args := [d1, d2] }
  | _ => none }
def CodeApartWrongFalsely : Prop := codeApartRow.holds Tryd.pinned (OpenSpec.ofChange codeApartWrong)

/- THE SECOND FORM. 'bulk': how many values and letters a reading holds, each counted each time it is reached (what is shared counts as often as it is met; a slice's spare places count too). A statement '..UptoSaid' is the law's where the arguments, and the package variables that the reading takes, are together of bulk at most 1048576: NARROWER than '..Said'. Prove '..Said' where nothing that the law and all that it calls make is longer than what came in: it says more and counts as full. Else prove '..UptoSaid'. A law counts once. -/
mutual
def uptoBulk {H : Type} : DataW H → Nat
  | .lit (.string bytes) => bytes.length + 1
  | .lit _ => 1
  | .nil => 1
  | .ptr d => uptoBulk d + 1
  | .slice elems spare => uptoBulkAll elems + uptoBulkAll spare + 1
  | .agg parts => uptoBulkAll parts + 1
  | .iface _ d => uptoBulk d + 1
  | .map entries => uptoBulkEntries entries + 1
  | .held _ => 1
def uptoBulkAll {H : Type} : List (DataW H) → Nat
  | [] => 0
  | d :: r => uptoBulk d + uptoBulkAll r
def uptoBulkEntries {H : Type} : List (Lit × DataW H) → Nat
  | [] => 0
  | x :: r => uptoBulkEntry x + uptoBulkEntries r
def uptoBulkEntry {H : Type} : Lit × DataW H → Nat
  | (.string bytes, d) => bytes.length + uptoBulk d + 1
  | (_, d) => uptoBulk d + 1
 end
def uptoSmall : (H : Type) → List (DataW H) → Bool := fun _ ds => decide (uptoBulkAll ds ≤ 1048576)
def OpenSpec.upto (s : _root_.Go.ChangeSpec) : _root_.Go.OpenSpec := { _root_.Go.OpenSpec.ofChange s with cond := some uptoSmall }

/-- 'firebreaklaw06.CodeNames', WHERE WHAT IT READS IS OF BULK AT MOST 1048576: true; the input reads as it did. -/
def codeNamesUptoRow : OpenClaim := { program := "ytngihjmhedkanaadoor", sum := "c00f10b5d55014afd200b21ae707584a75ca765df9678da9f12f5113edecba80", func := "firebreak/firebreaklaw06.CodeNames", spec := "codeNames", named := ["firebreak/code.fields"], apart := false, laid := [("firebreak/code.fields", laid_firebreak_code_fields)], narrowed := true }
def CodeNamesUptoSaid : Prop := codeNamesUptoRow.holds Tryd.pinned (OpenSpec.upto codeNamesSpec)

/-- 'firebreaklaw06.CodeChecks', WHERE WHAT IT READS IS OF BULK AT MOST 1048576: true; the input reads as it did. -/
def codeChecksUptoRow : OpenClaim := { program := "ytngihjmhedkanaadoor", sum := "c00f10b5d55014afd200b21ae707584a75ca765df9678da9f12f5113edecba80", func := "firebreak/firebreaklaw06.CodeChecks", spec := "codeChecks", named := ["firebreak/code.fields"], apart := false, laid := [("firebreak/code.fields", laid_firebreak_code_fields)], narrowed := true }
def CodeChecksUptoSaid : Prop := codeChecksUptoRow.holds Tryd.pinned (OpenSpec.upto codeChecksSpec)

/-- 'firebreaklaw06.CodeMays', WHERE WHAT IT READS IS OF BULK AT MOST 1048576: true; the input reads as it did. -/
def codeMaysUptoRow : OpenClaim := { program := "ytngihjmhedkanaadoor", sum := "c00f10b5d55014afd200b21ae707584a75ca765df9678da9f12f5113edecba80", func := "firebreak/firebreaklaw06.CodeMays", spec := "codeMays", named := ["firebreak/code.fields"], apart := false, laid := [("firebreak/code.fields", laid_firebreak_code_fields)], narrowed := true }
def CodeMaysUptoSaid : Prop := codeMaysUptoRow.holds Tryd.pinned (OpenSpec.upto codeMaysSpec)

/-- 'firebreaklaw06.CodeReads', WHERE WHAT IT READS IS OF BULK AT MOST 1048576: true; the input reads as it did. -/
def codeReadsUptoRow : OpenClaim := { program := "ytngihjmhedkanaadoor", sum := "c00f10b5d55014afd200b21ae707584a75ca765df9678da9f12f5113edecba80", func := "firebreak/firebreaklaw06.CodeReads", spec := "codeReads", named := ["firebreak/code.fields"], apart := false, laid := [("firebreak/code.fields", laid_firebreak_code_fields)], narrowed := true }
def CodeReadsUptoSaid : Prop := codeReadsUptoRow.holds Tryd.pinned (OpenSpec.upto codeReadsSpec)

/-- 'firebreaklaw06.CodeReturns', WHERE WHAT IT READS IS OF BULK AT MOST 1048576: true; the input reads as it did. -/
def codeReturnsUptoRow : OpenClaim := { program := "ytngihjmhedkanaadoor", sum := "c00f10b5d55014afd200b21ae707584a75ca765df9678da9f12f5113edecba80", func := "firebreak/firebreaklaw06.CodeReturns", spec := "codeReturns", named := ["firebreak/code.fields"], apart := false, laid := [("firebreak/code.fields", laid_firebreak_code_fields)], narrowed := true }
def CodeReturnsUptoSaid : Prop := codeReturnsUptoRow.holds Tryd.pinned (OpenSpec.upto codeReturnsSpec)

/-- 'firebreaklaw06.CodeApart', WHERE WHAT IT READS IS OF BULK AT MOST 1048576: true; the input reads as it did. -/
def codeApartUptoRow : OpenClaim := { program := "ytngihjmhedkanaadoor", sum := "c00f10b5d55014afd200b21ae707584a75ca765df9678da9f12f5113edecba80", func := "firebreak/firebreaklaw06.CodeApart", spec := "codeApart", named := ["firebreak/code.fields"], apart := false, laid := [("firebreak/code.fields", laid_firebreak_code_fields)], narrowed := true }
def CodeApartUptoSaid : Prop := codeApartUptoRow.holds Tryd.pinned (OpenSpec.upto codeApartSpec)

end Rows
end Go.Proofs.YtngihjmhedkanaaDoor
