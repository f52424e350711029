/- flt's small functions. -/
import Derived.Test.YtfkdaimhdjaefaaDoorFM6
import Derived.Test.YtfkdaimhdjaefaaDoorProg
import Derived.WalkKit
import Derived.WalkLawsBesides
namespace Go.Proofs.YtfkdaimhdjaefaaDoor.Flt
open Go.RowKit

theorem call39 (x : Int) (w : World) : (callFunc 66 #[.int .u64 x]).run Tryd.prog w = .ok (.value (.float .f64 x.toNat)) w := by
  rw [run_callFunc_extern Tryd.func66 (by kernel_rfl) (by kernel_rfl) (by kernel_rfl) (e := Extern.MathFloatBits.float64frombits) (by kernel_rfl)]
  rfl
theorem call62 (x : Nat) (w : World) : (callFunc 83 #[.float .f64 x]).run Tryd.prog w = .ok (.value (.int .u64 x)) w := by
  rw [run_callFunc_extern Tryd.func83 (by kernel_rfl) (by kernel_rfl) (by kernel_rfl) (e := Extern.MathFloatBits.float64bits) (by kernel_rfl)]
  rfl
theorem floatOf_any (b : Int) (w : World) :
    Calls Tryd.prog 33 #[.int .i64 b] w fun e w' => e = .returned (.float .f64 (IntKind.u64.wrap b).toNat) ∧ w' = w := by
  have c39 := call39
  go_enter Tryd.func33, Tryd.ntmps33
  go_wp2
  go_ret
  exact ⟨rfl, rfl⟩

theorem order_self (x : Nat) : (FloatKind.f64.format.order x x != some .eq) = decide (INF < rungOf x) := by
  show (Ieee.double.order x x != some .eq) = _
  by_cases h : INF < rungOf x
  · rw [order_nan x x (.inl h)]; simp [h]
  · rw [order_key x x (by omega) (by omega), Int.compare_eq_eq.2 rfl]; simp [h]

theorem isNaN_any (x : Nat) (w : World) :
    Calls Tryd.prog 67 #[.float .f64 x] w fun e w' => e = .returned (.bool (decide (INF < rungOf x))) ∧ w' = w := by
  go_enter Tryd.func67, Tryd.ntmps67
  go_wp2
  go_ret
  exact ⟨by rw [order_self]; rfl, rfl⟩

theorem bitsOf_any (x : Nat) (w : World) :
    Calls Tryd.prog 68 #[.float .f64 x] w fun e w' => e = .returned (.int .i64 (wrap64 x)) ∧ w' = w := by
  have c62 := call62
  go_enter Tryd.func68, Tryd.ntmps68
  go_wp2
  go_ret
  exact ⟨rfl, rfl⟩

/-- The word of a number of 64 bits. -/
def wd (b : Int) : Nat := (IntKind.u64.wrap b).toNat

theorem floatOf_wd (b : Int) (w : World) :
    Calls Tryd.prog 33 #[.int .i64 b] w fun e w' => e = .returned (.float .f64 (wd b)) ∧ w' = w := floatOf_any b w

theorem resultOf_fine (x : Nat) (h : rungOf x ≤ INF) (w : World) :
    Calls Tryd.prog 34 #[.float .f64 x] w fun e w' => e = .returned (.int .i64 (wrap64 x)) ∧ w' = w := by
  have h1 : decide (INF < rungOf x) = false := decide_eq_false (by omega)
  have h29 := isNaN_any x
  rw [h1] at h29
  have h40 := bitsOf_any x
  go_enter Tryd.func34, Tryd.ntmps34
  go_wp2_with (first | (go_at_call 67; refine (h29 _).mono ?_; rintro e w' ⟨rfl, rfl⟩) | (go_at_call 68; refine (h40 _).mono ?_; rintro e w' ⟨rfl, rfl⟩))
  go_ret
  exact ⟨rfl, rfl⟩

theorem resultOf_nan (x : Nat) (h : INF < rungOf x) (w : World) :
    Calls Tryd.prog 34 #[.float .f64 x] w fun e w' => e = .returned (.int .i64 (wrap64 NAN)) ∧ w' = w := by
  have h1 : decide (INF < rungOf x) = true := decide_eq_true h
  have h29 := isNaN_any x
  rw [h1] at h29
  go_enter Tryd.func34, Tryd.ntmps34
  go_wp2_with (go_at_call 67; refine (h29 _).mono ?_; rintro e w' ⟨rfl, rfl⟩)
  go_ret
  have hN : wrap64 (NAN : Int) = 9221120237041090560 := by kernel_rfl
  exact ⟨by rw [hN]; rfl, rfl⟩

theorem number_any (b : Bool) (w : World) :
    Calls Tryd.prog 35 #[.bool b] w fun e w' => e = .returned (.int .i64 (if b then 1 else 0)) ∧ w' = w := by
  cases b
  · go_enter Tryd.func35, Tryd.ntmps35
    go_wp2
    go_ret
    exact ⟨rfl, rfl⟩
  · go_enter Tryd.func35, Tryd.ntmps35
    go_wp2
    go_ret
    exact ⟨rfl, rfl⟩
end Go.Proofs.YtfkdaimhdjaefaaDoor.Flt
