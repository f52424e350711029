/- flt's small functions. -/
import Derived.Test.YtalaajniammggaaGreatDoorXMa
import Derived.Test.YtalaajniammggaaGreatDoorProg
import Derived.WalkKit
import Derived.WalkLawsBesides
import Derived.Handy
namespace Go.Proofs.YtalaajniammggaaGreatDoor
open Go.RowKit
theorem call39 (x : Int) (w : World) : (callFunc 93 #[.int .u64 x]).run Tryz.prog w = .ok (.value (.float .f64 x.toNat)) w := by
 rw [run_callFunc_extern Tryz.func93 (by kernel_rfl) (by kernel_rfl) (by kernel_rfl) (e := Extern.MathFloatBits.float64frombits) (by kernel_rfl)]
 rfl
theorem call62 (x : Nat) (w : World) : (callFunc 111 #[.float .f64 x]).run Tryz.prog w = .ok (.value (.int .u64 x)) w := by
 rw [run_callFunc_extern Tryz.func111 (by kernel_rfl) (by kernel_rfl) (by kernel_rfl) (e := Extern.MathFloatBits.float64bits) (by kernel_rfl)]
 rfl
theorem call108 (x : Nat) (w : World) : (callFunc 140 #[.float .f64 x]).run Tryz.prog w = .ok (.value (.int .u64 x)) w := by
 rw [run_callFunc_extern Tryz.func140 (by kernel_rfl) (by kernel_rfl) (by kernel_rfl) (e := Extern.MathFloatBits.float64bits) (by kernel_rfl)]
 rfl
theorem call153 (x : Int) (w : World) : (callFunc 185 #[.int .u64 x]).run Tryz.prog w = .ok (.value (.float .f64 x.toNat)) w := by
 rw [run_callFunc_extern Tryz.func185 (by kernel_rfl) (by kernel_rfl) (by kernel_rfl) (e := Extern.MathFloatBits.float64frombits) (by kernel_rfl)]
 rfl
theorem floatOf_any (b : Int) (w : World) :
  Calls Tryz.prog 76 #[.int .i64 b] w fun e w' => e = .returned (.float .f64 (IntKind.u64.wrap b).toNat) ∧ w' = w := by
 have c39 := call39
 go_enter Tryz.func76,Tryz.ntmps76
 go_wp2
 go_ret
 exact ⟨rfl,rfl⟩
theorem order_self (x : Nat) : (FloatKind.f64.format.order x x != some .eq) = decide (INF < rungOf x) := by
 show (Ieee.double.order x x != some .eq) = _
 by_cases h : INF < rungOf x
 ·rw [order_nan x x (.inl h)]; simp [h]
 ·rw [order_key x x (by omega) (by omega),Int.compare_eq_eq.2 rfl]; simp [h]
theorem isNaN_any (x : Nat) (w : World) :
  Calls Tryz.prog 77 #[.float .f64 x] w fun e w' => e = .returned (.bool (decide (INF < rungOf x))) ∧ w' = w := by
 go_enter Tryz.func77,Tryz.ntmps77
 go_wp2
 go_ret
 exact ⟨by rw [order_self]; rfl,rfl⟩
theorem bitsOf_any (x : Nat) (w : World) :
  Calls Tryz.prog 125 #[.float .f64 x] w fun e w' => e = .returned (.int .i64 (wrap64 x)) ∧ w' = w := by
 have c62 := call62
 go_enter Tryz.func125,Tryz.ntmps125
 go_wp2
 go_ret
 exact ⟨rfl,rfl⟩
def wd (b : Int) : Nat := (IntKind.u64.wrap b).toNat
theorem floatOf_wd (b : Int) (w : World) :
  Calls Tryz.prog 76 #[.int .i64 b] w fun e w' => e = .returned (.float .f64 (wd b)) ∧ w' = w := floatOf_any b w
end Go.Proofs.YtalaajniammggaaGreatDoor

/- flt.Do, at each instruction. -/
namespace Go.Proofs.YtalaajniammggaaGreatDoor
open Go.RowKit
theorem run_fmul_some (x y r : Nat) (h : Ieee.double.mul x y = some r) (w : World) : (binOp .mul 107 (.float .f64 x) (.float .f64 y)).run Tryz.prog w = .ok (.float .f64 r) w :=
 run_float_arith w .mul 107 .f64 x y r h
theorem run_fdiv_some (x y r : Nat) (h : Ieee.double.div x y = some r) (w : World) : (binOp .quo 107 (.float .f64 x) (.float .f64 y)).run Tryz.prog w = .ok (.float .f64 r) w :=
 run_float_arith w .quo 107 .f64 x y r h
end Go.Proofs.YtalaajniammggaaGreatDoor

/- flt.Do: order, whole numbers there and back, what there is none of. -/
namespace Go.Proofs.YtalaajniammggaaGreatDoor
open Go.RowKit
end Go.Proofs.YtalaajniammggaaGreatDoor

/- Two texts, read by the library. -/
namespace Go.Proofs.YtalaajniammggaaGreatDoor
open Go.RowKit
end Go.Proofs.YtalaajniammggaaGreatDoor
