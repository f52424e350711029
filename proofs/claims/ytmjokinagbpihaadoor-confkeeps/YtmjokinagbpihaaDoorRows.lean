/-
  NARROWER THAN 'FOR EVERY INPUT', by the rows' own cells (each row's printed sentence says how): ConfNames: laid · ConfMays: laid · ConfReads: laid · ConfReturns: laid · ConfCut: laid · ConfKeeps: laid.
  DERIVED. THE GIVEN ROWS OF THIS SEAT. 6 by the template 'for every input the law returns true; each argument reads behind the call as it read before'; 0 by the template 'total and deterministic' (their statements: YtmjokinagbpihaaDoorTotals.lean).
  GIVEN WITH THE SEED: the statements are not yours to turn. If you find one false, say at which input.
  Laid BY PROGRAM, IN A SANDBOX (cutbox-rows.mjs): the forced cells as the released guide's own fill.sh prints them over the translation a625abf6bcb88629… (all of the seat's roots in one cut). By AI agents, Wed Nov 11 2026. No macro, syntax, notation, axiom, sorry.
-/
import Derived.Test.YtmjokinagbpihaaDoorChecked
import GoSem.Claim
import GoSem.ClaimJoined
import GoSem.ClaimMapViews
import Derived.JoinedTies
import Derived.KernelRfl
namespace Go.Proofs.YtmjokinagbpihaaDoor
/- THE CELL 'sum', in the pinned program and in every row, IS THE sha256 OF THE DUMP (.gsa) THAT YtmjokinagbpihaaDoorProg.lean LOADS. Nothing in Lean hashes anything: it is a label: what it is worth is what the hold of that sum in a sandbox is worth. -/
noncomputable def Tryd.pinned : Pinned := { name := "ytmjokinagbpihaadoor", sum := "a625abf6bcb886295d1100ce831b3eaad63bef4b2d6a890999edb0e4ff0cd4bd", checked := Tryd.checked }
namespace Rows
def none {H : Type} : Left H := { results := [], args := [] }

/- WHAT THE LISTED PACKAGE-LEVEL VARIABLES READ AS WHEN THE CALL BEGINS. Each datum BY PROGRAM (the guide's laid-datum.mjs) off the statement by which the dump's own 'gosem.cut.vars' lays the variable. In a bare row this is a premise. The card (YtmjokinagbpihaaDoorCards.lean) ties it to the program's text. -/
def laid_firebreak_code_fields {H : Type} : DataW H := .agg [.lit (.int .u8 0), .lit (.int .u8 9), .lit (.int .u8 3), .lit (.int .u8 7), .lit (.int .u8 7), .lit (.int .u8 7), .lit (.int .u8 7), .lit (.int .u8 7), .lit (.int .u8 7), .lit (.int .u8 7), .lit (.int .u8 7), .lit (.int .u8 7), .lit (.int .u8 7), .lit (.int .u8 7), .lit (.int .u8 7), .lit (.int .u8 7), .lit (.int .u8 7), .lit (.int .u8 7), .lit (.int .u8 7), .lit (.int .u8 7), .lit (.int .u8 3), .lit (.int .u8 3), .lit (.int .u8 8), .lit (.int .u8 9), .lit (.int .u8 7), .lit (.int .u8 3), .lit (.int .u8 3), .lit (.int .u8 1), .lit (.int .u8 1), .lit (.int .u8 8), .lit (.int .u8 8), .lit (.int .u8 1), .lit (.int .u8 1), .lit (.int .u8 1)]
def laid_firebreak_conf_limits {H : Type} : DataW H := .agg [.agg [.lit (.int .i64 1), .lit (.int .i64 256), .lit (.int .i64 2)], .agg [.lit (.int .i64 1), .lit (.int .i64 64), .lit (.int .i64 1)], .agg [.lit (.int .i64 0), .lit (.int .i64 8), .lit (.int .i64 1)], .agg [.lit (.int .i64 0), .lit (.int .i64 4096), .lit (.int .i64 2)]]

/-- 'firebreaklaw14.ConfNames': WHATEVER THE INPUT: true; the input reads as it did. -/
def confNamesSpec : ChangeSpec := { name := "confNames", fn := fun _ => fun
  | [] => { results := [.lit (.bool true)], args := [] }
  | _ => none }
def confNamesRow : OpenClaim := { program := "ytmjokinagbpihaadoor", sum := "a625abf6bcb886295d1100ce831b3eaad63bef4b2d6a890999edb0e4ff0cd4bd", func := "firebreak/firebreaklaw14.ConfNames", spec := "confNames", unfollowed := true, recurses := true, named := ["firebreak/conf.limits", "firebreak/code.fields"], apart := false, laid := [("firebreak/code.fields", laid_firebreak_code_fields), ("firebreak/conf.limits", laid_firebreak_conf_limits)] }
def ConfNamesSaid : Prop := confNamesRow.holds Tryd.pinned (OpenSpec.ofChange confNamesSpec)

/-- ITS FALSE NEIGHBOUR: 'it returns false'. Refute it at one input. -/
def confNamesWrong : ChangeSpec := { name := "confNames", fn := fun _ => fun
  | [] => { results := [.lit (.bool false)], args := [] }
  | _ => none }
def ConfNamesWrongFalsely : Prop := confNamesRow.holds Tryd.pinned (OpenSpec.ofChange confNamesWrong)

/-- 'firebreaklaw14.ConfMays': WHATEVER THE INPUT: true; the input reads as it did. -/
def confMaysSpec : ChangeSpec := { name := "confMays", fn := fun _ => fun
  | [d1, d2] => { results := [.lit (.bool true)], args := [d1, d2] }
  | _ => none }
def confMaysRow : OpenClaim := { program := "ytmjokinagbpihaadoor", sum := "a625abf6bcb886295d1100ce831b3eaad63bef4b2d6a890999edb0e4ff0cd4bd", func := "firebreak/firebreaklaw14.ConfMays", spec := "confMays", unfollowed := true, recurses := true, named := ["firebreak/conf.limits", "firebreak/code.fields"], apart := false, laid := [("firebreak/code.fields", laid_firebreak_code_fields), ("firebreak/conf.limits", laid_firebreak_conf_limits)] }
def ConfMaysSaid : Prop := confMaysRow.holds Tryd.pinned (OpenSpec.ofChange confMaysSpec)

/-- ITS FALSE NEIGHBOUR: 'it returns false'. Refute it at one input. -/
def confMaysWrong : ChangeSpec := { name := "confMays", fn := fun _ => fun
  | [d1, d2] => { results := [.lit (.bool false)], args := [d1, d2] }
  | _ => none }
def ConfMaysWrongFalsely : Prop := confMaysRow.holds Tryd.pinned (OpenSpec.ofChange confMaysWrong)

/-- 'firebreaklaw14.ConfReads': WHATEVER THE INPUT: true; the input reads as it did. -/
def confReadsSpec : ChangeSpec := { name := "confReads", fn := fun _ => fun
  | [d] => { results := [.lit (.bool true)], args := [d] }
  | _ => none }
def confReadsRow : OpenClaim := { program := "ytmjokinagbpihaadoor", sum := "a625abf6bcb886295d1100ce831b3eaad63bef4b2d6a890999edb0e4ff0cd4bd", func := "firebreak/firebreaklaw14.ConfReads", spec := "confReads", unfollowed := true, recurses := true, named := ["firebreak/conf.limits", "firebreak/code.fields"], apart := false, laid := [("firebreak/code.fields", laid_firebreak_code_fields), ("firebreak/conf.limits", laid_firebreak_conf_limits)] }
def ConfReadsSaid : Prop := confReadsRow.holds Tryd.pinned (OpenSpec.ofChange confReadsSpec)

/-- ITS FALSE NEIGHBOUR: 'it returns false'. Refute it at one input. -/
def confReadsWrong : ChangeSpec := { name := "confReads", fn := fun _ => fun
  | [d] => { results := [.lit (.bool false)], args := [d] }
  | _ => none }
def ConfReadsWrongFalsely : Prop := confReadsRow.holds Tryd.pinned (OpenSpec.ofChange confReadsWrong)

/-- 'firebreaklaw14.ConfReturns': WHATEVER THE INPUT: true; the input reads as it did. -/
def confReturnsSpec : ChangeSpec := { name := "confReturns", fn := fun _ => fun
  | [d1, d2] => { results := [.lit (.bool true)], args := [d1, d2] }
  | _ => none }
def confReturnsRow : OpenClaim := { program := "ytmjokinagbpihaadoor", sum := "a625abf6bcb886295d1100ce831b3eaad63bef4b2d6a890999edb0e4ff0cd4bd", func := "firebreak/firebreaklaw14.ConfReturns", spec := "confReturns", unfollowed := true, recurses := true, named := ["firebreak/conf.limits", "firebreak/code.fields"], apart := false, laid := [("firebreak/code.fields", laid_firebreak_code_fields), ("firebreak/conf.limits", laid_firebreak_conf_limits)] }
def ConfReturnsSaid : Prop := confReturnsRow.holds Tryd.pinned (OpenSpec.ofChange confReturnsSpec)

/-- ITS FALSE NEIGHBOUR: 'it returns false'. Refute it at one input. -/
def confReturnsWrong : ChangeSpec := { name := "confReturns", fn := fun _ => fun
  | [d1, d2] => { results := [.lit (.bool false)], args := [d1, d2] }
  | _ => none }
def ConfReturnsWrongFalsely : Prop := confReturnsRow.holds Tryd.pinned (OpenSpec.ofChange confReturnsWrong)

/-- 'firebreaklaw14.ConfCut': WHATEVER THE INPUT: true; the input reads as it did. -/
def confCutSpec : ChangeSpec := { name := "confCut", fn := fun _ => fun
  | [d1, d2, d3, d4] => { results := [.lit (.bool true)], args := [d1, d2, d3, d4] }
  | _ => none }
def confCutRow : OpenClaim := { program := "ytmjokinagbpihaadoor", sum := "a625abf6bcb886295d1100ce831b3eaad63bef4b2d6a890999edb0e4ff0cd4bd", func := "firebreak/firebreaklaw14.ConfCut", spec := "confCut", unfollowed := true, recurses := true, named := ["firebreak/conf.limits", "firebreak/code.fields"], apart := false, laid := [("firebreak/code.fields", laid_firebreak_code_fields), ("firebreak/conf.limits", laid_firebreak_conf_limits)] }
def ConfCutSaid : Prop := confCutRow.holds Tryd.pinned (OpenSpec.ofChange confCutSpec)

/-- ITS FALSE NEIGHBOUR: 'it returns false'. Refute it at one input. -/
def confCutWrong : ChangeSpec := { name := "confCut", fn := fun _ => fun
  | [d1, d2, d3, d4] => { results := [.lit (.bool false)], args := [d1, d2, d3, d4] }
  | _ => none }
def ConfCutWrongFalsely : Prop := confCutRow.holds Tryd.pinned (OpenSpec.ofChange confCutWrong)

/-- 'firebreaklaw14.ConfKeeps': WHATEVER THE INPUT: true; the input reads as it did. -/
def confKeepsSpec : ChangeSpec := { name := "confKeeps", fn := fun _ => fun
  | [d1, d2] => { results := [.lit (.bool true)], args := [d1, d2] }
  | _ => none }
def confKeepsRow : OpenClaim := { program := "ytmjokinagbpihaadoor", sum := "a625abf6bcb886295d1100ce831b3eaad63bef4b2d6a890999edb0e4ff0cd4bd", func := "firebreak/firebreaklaw14.ConfKeeps", spec := "confKeeps", unfollowed := true, recurses := true, named := ["firebreak/conf.limits", "firebreak/code.fields"], apart := false, laid := [("firebreak/code.fields", laid_firebreak_code_fields), ("firebreak/conf.limits", laid_firebreak_conf_limits)] }
def ConfKeepsSaid : Prop := confKeepsRow.holds Tryd.pinned (OpenSpec.ofChange confKeepsSpec)

/-- ITS FALSE NEIGHBOUR: 'it returns false'. Refute it at one input. -/
def confKeepsWrong : ChangeSpec := { name := "confKeeps", fn := fun _ => fun
  | [d1, d2] => { results := [.lit (.bool false)], args := [d1, d2] }
  | _ => none }
def ConfKeepsWrongFalsely : Prop := confKeepsRow.holds Tryd.pinned (OpenSpec.ofChange confKeepsWrong)

/- THE SECOND FORM. 'bulk': how many values and letters a reading holds, each counted each time it is reached (what is shared counts as often as it is met; a slice's spare places count too). A statement '..UptoSaid' is the law's where the arguments, and the package variables that the reading takes, are together of bulk at most 1048576: NARROWER than '..Said'. Prove '..Said' where nothing that the law and all that it calls make is longer than what came in: it says more and counts as full. Else prove '..UptoSaid'. A law counts once. -/
mutual
def uptoBulk {H : Type} : DataW H → Nat
  | .lit (.string bytes) => bytes.length + 1
  | .lit _ => 1
  | .nil => 1
  | .ptr d => uptoBulk d + 1
  | .slice elems spare => uptoBulkAll elems + uptoBulkAll spare + 1
  | .agg parts => uptoBulkAll parts + 1
  | .iface _ d => uptoBulk d + 1
  | .map entries => uptoBulkEntries entries + 1
  | .held _ => 1
def uptoBulkAll {H : Type} : List (DataW H) → Nat
  | [] => 0
  | d :: r => uptoBulk d + uptoBulkAll r
def uptoBulkEntries {H : Type} : List (Lit × DataW H) → Nat
  | [] => 0
  | x :: r => uptoBulkEntry x + uptoBulkEntries r
def uptoBulkEntry {H : Type} : Lit × DataW H → Nat
  | (.string bytes, d) => bytes.length + uptoBulk d + 1
  | (_, d) => uptoBulk d + 1
 end
def uptoSmall : (H : Type) → List (DataW H) → Bool := fun _ ds => decide (uptoBulkAll ds ≤ 1048576)
def OpenSpec.upto (s : _root_.Go.ChangeSpec) : _root_.Go.OpenSpec := { _root_.Go.OpenSpec.ofChange s with cond := some uptoSmall }

/-- 'firebreaklaw14.ConfNames', WHERE WHAT IT READS IS OF BULK AT MOST 1048576: true; the input reads as it did. -/
def confNamesUptoRow : OpenClaim := { program := "ytmjokinagbpihaadoor", sum := "a625abf6bcb886295d1100ce831b3eaad63bef4b2d6a890999edb0e4ff0cd4bd", func := "firebreak/firebreaklaw14.ConfNames", spec := "confNames", unfollowed := true, recurses := true, named := ["firebreak/conf.limits", "firebreak/code.fields"], apart := false, laid := [("firebreak/code.fields", laid_firebreak_code_fields), ("firebreak/conf.limits", laid_firebreak_conf_limits)], narrowed := true }
def ConfNamesUptoSaid : Prop := confNamesUptoRow.holds Tryd.pinned (OpenSpec.upto confNamesSpec)

/-- 'firebreaklaw14.ConfMays', WHERE WHAT IT READS IS OF BULK AT MOST 1048576: true; the input reads as it did. -/
def confMaysUptoRow : OpenClaim := { program := "ytmjokinagbpihaadoor", sum := "a625abf6bcb886295d1100ce831b3eaad63bef4b2d6a890999edb0e4ff0cd4bd", func := "firebreak/firebreaklaw14.ConfMays", spec := "confMays", unfollowed := true, recurses := true, named := ["firebreak/conf.limits", "firebreak/code.fields"], apart := false, laid := [("firebreak/code.fields", laid_firebreak_code_fields), ("firebreak/conf.limits", laid_firebreak_conf_limits)], narrowed := true }
def ConfMaysUptoSaid : Prop := confMaysUptoRow.holds Tryd.pinned (OpenSpec.upto confMaysSpec)

/-- 'firebreaklaw14.ConfReads', WHERE WHAT IT READS IS OF BULK AT MOST 1048576: true; the input reads as it did. -/
def confReadsUptoRow : OpenClaim := { program := "ytmjokinagbpihaadoor", sum := "a625abf6bcb886295d1100ce831b3eaad63bef4b2d6a890999edb0e4ff0cd4bd", func := "firebreak/firebreaklaw14.ConfReads", spec := "confReads", unfollowed := true, recurses := true, named := ["firebreak/conf.limits", "firebreak/code.fields"], apart := false, laid := [("firebreak/code.fields", laid_firebreak_code_fields), ("firebreak/conf.limits", laid_firebreak_conf_limits)], narrowed := true }
def ConfReadsUptoSaid : Prop := confReadsUptoRow.holds Tryd.pinned (OpenSpec.upto confReadsSpec)

/-- 'firebreaklaw14.ConfReturns', WHERE WHAT IT READS IS OF BULK AT MOST 1048576: true; the input reads as it did. -/
def confReturnsUptoRow : OpenClaim := { program := "ytmjokinagbpihaadoor", sum := "a625abf6bcb886295d1100ce831b3eaad63bef4b2d6a890999edb0e4ff0cd4bd", func := "firebreak/firebreaklaw14.ConfReturns", spec := "confReturns", unfollowed := true, recurses := true, named := ["firebreak/conf.limits", "firebreak/code.fields"], apart := false, laid := [("firebreak/code.fields", laid_firebreak_code_fields), ("firebreak/conf.limits", laid_firebreak_conf_limits)], narrowed := true }
def ConfReturnsUptoSaid : Prop := confReturnsUptoRow.holds Tryd.pinned (OpenSpec.upto confReturnsSpec)

/-- 'firebreaklaw14.ConfCut', WHERE WHAT IT READS IS OF BULK AT MOST 1048576: true; the input reads as it did. -/
def confCutUptoRow : OpenClaim := { program := "ytmjokinagbpihaadoor", sum := "a625abf6bcb886295d1100ce831b3eaad63bef4b2d6a890999edb0e4ff0cd4bd", func := "firebreak/firebreaklaw14.ConfCut", spec := "confCut", unfollowed := true, recurses := true, named := ["firebreak/conf.limits", "firebreak/code.fields"], apart := false, laid := [("firebreak/code.fields", laid_firebreak_code_fields), ("firebreak/conf.limits", laid_firebreak_conf_limits)], narrowed := true }
def ConfCutUptoSaid : Prop := confCutUptoRow.holds Tryd.pinned (OpenSpec.upto confCutSpec)

/-- 'firebreaklaw14.ConfKeeps', WHERE WHAT IT READS IS OF BULK AT MOST 1048576: true; the input reads as it did. -/
def confKeepsUptoRow : OpenClaim := { program := "ytmjokinagbpihaadoor", sum := "a625abf6bcb886295d1100ce831b3eaad63bef4b2d6a890999edb0e4ff0cd4bd", func := "firebreak/firebreaklaw14.ConfKeeps", spec := "confKeeps", unfollowed := true, recurses := true, named := ["firebreak/conf.limits", "firebreak/code.fields"], apart := false, laid := [("firebreak/code.fields", laid_firebreak_code_fields), ("firebreak/conf.limits", laid_firebreak_conf_limits)], narrowed := true }
def ConfKeepsUptoSaid : Prop := confKeepsUptoRow.holds Tryd.pinned (OpenSpec.upto confKeepsSpec)

end Rows
end Go.Proofs.YtmjokinagbpihaaDoor
