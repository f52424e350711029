/- Whole numbers of 64 bits: what each instruction makes of two, as plain functions. -/
import Derived.Test.YtfkdaimhdjaefaaDoorProg
import Derived.RowKit
import Derived.Laws.BitsAllLaws
namespace Go.Proofs.YtfkdaimhdjaefaaDoor.Alu
open Go.RowKit

def iadd (b c : Int) : Int := wrap64 (b + c)
def isub (b c : Int) : Int := wrap64 (b - c)
def imul (b c : Int) : Int := wrap64 (b * c)
def idiv (b c : Int) : Int := wrap64 (b.tdiv c)
def irem (b c : Int) : Int := wrap64 (b - wrap64 (idiv b c * c))
def iand (b c : Int) : Int := bits .and .i64 b c
def ior (b c : Int) : Int := bits .or .i64 b c
def ixor (b c : Int) : Int := bits .xor .i64 b c
def ishl (b c : Int) : Int := if c < 0 then b else wrap64 (b * 2 ^ min c.toNat 64)
def ishr (b c : Int) : Int := if c < 0 then b else b / 2 ^ min c.toNat 64
def iless (b c : Int) : Int := if b < c then 1 else 0
def iequal (b c : Int) : Int := if b = c then 1 else 0

/-- A whole number of 64 bits. -/
def Fits (b : Int) : Prop := -9223372036854775808 ≤ b ∧ b ≤ 9223372036854775807

theorem wrap64_fits (n : Int) : Fits (wrap64 n) := by unfold Fits wrap64; omega
theorem wrap64_id {n : Int} (h : Fits n) : wrap64 n = n := by unfold Fits at h; unfold wrap64; omega
end Go.Proofs.YtfkdaimhdjaefaaDoor.Alu
