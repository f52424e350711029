/- flt's small functions. -/
import Derived.Test.YthnjeejnnhadeaaGreatDoorGFm
import Derived.Test.YthnjeejnnhadeaaGreatDoorProg
import Derived.WalkKit
import Derived.WalkLawsBesides
namespace Go.Proofs.YthnjeejnnhadeaaGreatDoor.Flt
open Go.RowKit
theorem call39 (x : Int) (w : World) : (callFunc 293 #[.int .u64 x]).run Tryz.prog w = .ok (.value (.float .f64 x.toNat)) w := by
 rw [run_callFunc_extern Tryz.func293 (by kernel_rfl) (by kernel_rfl) (by kernel_rfl) (e := Extern.MathFloatBits.float64frombits) (by kernel_rfl)]
 rfl
theorem call62 (x : Nat) (w : World) : (callFunc 321 #[.float .f64 x]).run Tryz.prog w = .ok (.value (.int .u64 x)) w := by
 rw [run_callFunc_extern Tryz.func321 (by kernel_rfl) (by kernel_rfl) (by kernel_rfl) (e := Extern.MathFloatBits.float64bits) (by kernel_rfl)]
 rfl
theorem floatOf_any (b : Int) (w : World) :
  Calls Tryz.prog 248 #[.int .i64 b] w fun e w' => e = .returned (.float .f64 (IntKind.u64.wrap b).toNat) ∧ w' = w := by
 have c39 := call39
 go_enter Tryz.func248, Tryz.ntmps248
 go_wp2
 go_ret
 exact ⟨rfl, rfl⟩
theorem order_self (x : Nat) : (FloatKind.f64.format.order x x != some .eq) = decide (INF < rungOf x) := by
 show (Ieee.double.order x x != some .eq) = _
 by_cases h : INF < rungOf x
 ·rw [order_nan x x (.inl h)]; simp [h]
 ·rw [order_key x x (by omega) (by omega), Int.compare_eq_eq.2 rfl]; simp [h]
theorem isNaN_any (x : Nat) (w : World) :
  Calls Tryz.prog 294 #[.float .f64 x] w fun e w' => e = .returned (.bool (decide (INF < rungOf x))) ∧ w' = w := by
 go_enter Tryz.func294, Tryz.ntmps294
 go_wp2
 go_ret
 exact ⟨by rw [order_self]; rfl, rfl⟩
theorem bitsOf_any (x : Nat) (w : World) :
  Calls Tryz.prog 295 #[.float .f64 x] w fun e w' => e = .returned (.int .i64 (wrap64 x)) ∧ w' = w := by
 have c62 := call62
 go_enter Tryz.func295, Tryz.ntmps295
 go_wp2
 go_ret
 exact ⟨rfl, rfl⟩
def wd (b : Int) : Nat := (IntKind.u64.wrap b).toNat
theorem floatOf_wd (b : Int) (w : World) :
  Calls Tryz.prog 248 #[.int .i64 b] w fun e w' => e = .returned (.float .f64 (wd b)) ∧ w' = w := floatOf_any b w
theorem resultOf_fine (x : Nat) (h : rungOf x ≤ INF) (w : World) :
  Calls Tryz.prog 249 #[.float .f64 x] w fun e w' => e = .returned (.int .i64 (wrap64 x)) ∧ w' = w := by
 have h1 : decide (INF < rungOf x) = false := decide_eq_false (by omega)
 have h29 := isNaN_any x
 rw [h1] at h29
 have h40 := bitsOf_any x
 go_enter Tryz.func249, Tryz.ntmps249
 go_wp2_with (first | (go_at_call 294; refine (h29 _).mono ?_; rintro e w' ⟨rfl, rfl⟩) | (go_at_call 295; refine (h40 _).mono ?_; rintro e w' ⟨rfl, rfl⟩))
 go_ret
 exact ⟨rfl, rfl⟩
theorem resultOf_nan (x : Nat) (h : INF < rungOf x) (w : World) :
  Calls Tryz.prog 249 #[.float .f64 x] w fun e w' => e = .returned (.int .i64 (wrap64 NAN)) ∧ w' = w := by
 have h1 : decide (INF < rungOf x) = true := decide_eq_true h
 have h29 := isNaN_any x
 rw [h1] at h29
 go_enter Tryz.func249, Tryz.ntmps249
 go_wp2_with (go_at_call 294; refine (h29 _).mono ?_; rintro e w' ⟨rfl, rfl⟩)
 go_ret
 have hN : wrap64 (NAN : Int) = 9221120237041090560 := by kernel_rfl
 exact ⟨by rw [hN]; rfl, rfl⟩
theorem number_any (b : Bool) (w : World) :
  Calls Tryz.prog 250 #[.bool b] w fun e w' => e = .returned (.int .i64 (if b then 1 else 0)) ∧ w' = w := by
 cases b
 ·go_enter Tryz.func250, Tryz.ntmps250
  go_wp2
  go_ret
  exact ⟨rfl, rfl⟩
 ·go_enter Tryz.func250, Tryz.ntmps250
  go_wp2
  go_ret
  exact ⟨rfl, rfl⟩
end Go.Proofs.YthnjeejnnhadeaaGreatDoor.Flt

namespace Go.Proofs.YthnjeejnnhadeaaGreatDoor.Flt
open Go.RowKit
theorem nan_cut (x y : Nat) (n : Nat) : INF < rungOf ((Question.nanBits .f64 x y).cut n) := by
 have e : (Question.nanBits .f64 x y).cut n = (n % 2) * 2 ^ 63 + 0x7ff0000000000000 + 1 + (n / 2) % (2 ^ 52 - 1) := rfl
 rw [e]
 have hI : INF = 2047 * 2 ^ 52 := rfl
 have h1 : (n / 2) % (2 ^ 52 - 1) < 2 ^ 52 - 1 := Nat.mod_lt _ (by decide)
 have h2 : n % 2 < 2 := Nat.mod_lt _ (by decide)
 generalize (n / 2) % (2 ^ 52 - 1) = c at h1 ⊢
 generalize n % 2 = a at h2 ⊢
 have h3 : rungOf (a * 2 ^ 63 + 0x7ff0000000000000 + 1 + c) = 0x7ff0000000000000 + 1 + c := by
  unfold rungOf
  omega
 rw [h3]
 omega
theorem below_drew (w : World) : Below w.heap.size w w.drew := by
 exact (Below.refl _ w).drew
theorem run_fadd_some (x y r : Nat) (h : Ieee.double.add x y = some r) (w : World) : (binOp .add 315 (.float .f64 x) (.float .f64 y)).run Tryz.prog w = .ok (.float .f64 r) w :=
 run_float_arith w .add 315 .f64 x y r h
theorem run_fadd_none (x y : Nat) (h : Ieee.double.add x y = none) (w : World) : (binOp .add 315 (.float .f64 x) (.float .f64 y)).run Tryz.prog w = .ok (.float .f64 ((Question.nanBits .f64 x y).cut (w.tape w.drawn (.nanBits .f64 x y)))) w.drew := by
 have h' : FloatKind.f64.format.add x y = none := h
 simp [binOp, Op.floatArith, h', Question.forced]
set_option maxRecDepth 100000 in
theorem do_fadd (b c : Int) (w : World) :
  Calls Tryz.prog 216 #[.int .i64 15, .int .i64 b, .int .i64 c] w fun e w' => e = .returned (.tuple #[.int .i64 (wrap64 (fadd (wd b) (wd c))), .int .i64 0]) ∧ Below w.heap.size w w' := by
 have h18 := floatOf_wd
 cases ho : Ieee.double.add (wd b) (wd c) with
 | some r =>
  have hv : fadd (wd b) (wd c) = r := by unfold fadd; rw [ho]; rfl
  have hr := (add_fine _ _ _ ho).1
  have hop := run_fadd_some _ _ _ ho
  have h19 := resultOf_fine r hr
  rw [hv]
  clear hv hr ho
  go_enter Tryz.func216, Tryz.ntmps216
  go_wp2_with (first | (go_at_call 248; refine (h18 _ _).mono ?_; rintro e w' ⟨rfl, rfl⟩) | (go_at_call 249; refine (h19 _).mono ?_; rintro e w' ⟨rfl, rfl⟩))
  go_ret2
  exact ⟨rfl, Below.refl _ _⟩
 | none =>
  have hv : fadd (wd b) (wd c) = NAN := by unfold fadd; rw [ho]; rfl
  have hop := run_fadd_none _ _ ho
  have h19 := fun (n : Nat) => resultOf_nan _ (nan_cut (wd b) (wd c) n)
  rw [hv]
  clear hv ho
  go_enter Tryz.func216, Tryz.ntmps216
  go_wp2_with (first | (go_at_call 248; refine (h18 _ _).mono ?_; rintro e w' ⟨rfl, rfl⟩) | (go_at_call 249; refine (h19 _ _).mono ?_; rintro e w' ⟨rfl, rfl⟩))
  go_ret2
  exact ⟨rfl, below_drew _⟩
theorem run_fsub_some (x y r : Nat) (h : Ieee.double.sub x y = some r) (w : World) : (binOp .sub 315 (.float .f64 x) (.float .f64 y)).run Tryz.prog w = .ok (.float .f64 r) w :=
 run_float_arith w .sub 315 .f64 x y r h
theorem run_fsub_none (x y : Nat) (h : Ieee.double.sub x y = none) (w : World) : (binOp .sub 315 (.float .f64 x) (.float .f64 y)).run Tryz.prog w = .ok (.float .f64 ((Question.nanBits .f64 x y).cut (w.tape w.drawn (.nanBits .f64 x y)))) w.drew := by
 have h' : FloatKind.f64.format.sub x y = none := h
 simp [binOp, Op.floatArith, h', Question.forced]
set_option maxRecDepth 100000 in
theorem do_fsub (b c : Int) (w : World) :
  Calls Tryz.prog 216 #[.int .i64 16, .int .i64 b, .int .i64 c] w fun e w' => e = .returned (.tuple #[.int .i64 (wrap64 (fsub (wd b) (wd c))), .int .i64 0]) ∧ Below w.heap.size w w' := by
 have h18 := floatOf_wd
 cases ho : Ieee.double.sub (wd b) (wd c) with
 | some r =>
  have hv : fsub (wd b) (wd c) = r := by unfold fsub; rw [ho]; rfl
  have hr := (sub_fine _ _ _ ho).1
  have hop := run_fsub_some _ _ _ ho
  have h19 := resultOf_fine r hr
  rw [hv]
  clear hv hr ho
  go_enter Tryz.func216, Tryz.ntmps216
  go_wp2_with (first | (go_at_call 248; refine (h18 _ _).mono ?_; rintro e w' ⟨rfl, rfl⟩) | (go_at_call 249; refine (h19 _).mono ?_; rintro e w' ⟨rfl, rfl⟩))
  go_ret2
  exact ⟨rfl, Below.refl _ _⟩
 | none =>
  have hv : fsub (wd b) (wd c) = NAN := by unfold fsub; rw [ho]; rfl
  have hop := run_fsub_none _ _ ho
  have h19 := fun (n : Nat) => resultOf_nan _ (nan_cut (wd b) (wd c) n)
  rw [hv]
  clear hv ho
  go_enter Tryz.func216, Tryz.ntmps216
  go_wp2_with (first | (go_at_call 248; refine (h18 _ _).mono ?_; rintro e w' ⟨rfl, rfl⟩) | (go_at_call 249; refine (h19 _ _).mono ?_; rintro e w' ⟨rfl, rfl⟩))
  go_ret2
  exact ⟨rfl, below_drew _⟩
theorem run_fmul_some (x y r : Nat) (h : Ieee.double.mul x y = some r) (w : World) : (binOp .mul 315 (.float .f64 x) (.float .f64 y)).run Tryz.prog w = .ok (.float .f64 r) w :=
 run_float_arith w .mul 315 .f64 x y r h
theorem run_fmul_none (x y : Nat) (h : Ieee.double.mul x y = none) (w : World) : (binOp .mul 315 (.float .f64 x) (.float .f64 y)).run Tryz.prog w = .ok (.float .f64 ((Question.nanBits .f64 x y).cut (w.tape w.drawn (.nanBits .f64 x y)))) w.drew := by
 have h' : FloatKind.f64.format.mul x y = none := h
 simp [binOp, Op.floatArith, h', Question.forced]
set_option maxRecDepth 100000 in
theorem do_fmul (b c : Int) (w : World) :
  Calls Tryz.prog 216 #[.int .i64 17, .int .i64 b, .int .i64 c] w fun e w' => e = .returned (.tuple #[.int .i64 (wrap64 (fmul (wd b) (wd c))), .int .i64 0]) ∧ Below w.heap.size w w' := by
 have h18 := floatOf_wd
 cases ho : Ieee.double.mul (wd b) (wd c) with
 | some r =>
  have hv : fmul (wd b) (wd c) = r := by unfold fmul; rw [ho]; rfl
  have hr := (mul_fine _ _ _ ho).1
  have hop := run_fmul_some _ _ _ ho
  have h19 := resultOf_fine r hr
  rw [hv]
  clear hv hr ho
  go_enter Tryz.func216, Tryz.ntmps216
  go_wp2_with (first | (go_at_call 248; refine (h18 _ _).mono ?_; rintro e w' ⟨rfl, rfl⟩) | (go_at_call 249; refine (h19 _).mono ?_; rintro e w' ⟨rfl, rfl⟩))
  go_ret2
  exact ⟨rfl, Below.refl _ _⟩
 | none =>
  have hv : fmul (wd b) (wd c) = NAN := by unfold fmul; rw [ho]; rfl
  have hop := run_fmul_none _ _ ho
  have h19 := fun (n : Nat) => resultOf_nan _ (nan_cut (wd b) (wd c) n)
  rw [hv]
  clear hv ho
  go_enter Tryz.func216, Tryz.ntmps216
  go_wp2_with (first | (go_at_call 248; refine (h18 _ _).mono ?_; rintro e w' ⟨rfl, rfl⟩) | (go_at_call 249; refine (h19 _ _).mono ?_; rintro e w' ⟨rfl, rfl⟩))
  go_ret2
  exact ⟨rfl, below_drew _⟩
theorem run_fdiv_some (x y r : Nat) (h : Ieee.double.div x y = some r) (w : World) : (binOp .quo 315 (.float .f64 x) (.float .f64 y)).run Tryz.prog w = .ok (.float .f64 r) w :=
 run_float_arith w .quo 315 .f64 x y r h
theorem run_fdiv_none (x y : Nat) (h : Ieee.double.div x y = none) (w : World) : (binOp .quo 315 (.float .f64 x) (.float .f64 y)).run Tryz.prog w = .ok (.float .f64 ((Question.nanBits .f64 x y).cut (w.tape w.drawn (.nanBits .f64 x y)))) w.drew := by
 have h' : FloatKind.f64.format.div x y = none := h
 simp [binOp, Op.floatArith, h', Question.forced]
set_option maxRecDepth 100000 in
theorem do_fdiv (b c : Int) (w : World) :
  Calls Tryz.prog 216 #[.int .i64 18, .int .i64 b, .int .i64 c] w fun e w' => e = .returned (.tuple #[.int .i64 (wrap64 (fdiv (wd b) (wd c))), .int .i64 0]) ∧ Below w.heap.size w w' := by
 have h18 := floatOf_wd
 cases ho : Ieee.double.div (wd b) (wd c) with
 | some r =>
  have hv : fdiv (wd b) (wd c) = r := by unfold fdiv; rw [ho]; rfl
  have hr := (div_fine _ _ _ ho).1
  have hop := run_fdiv_some _ _ _ ho
  have h19 := resultOf_fine r hr
  rw [hv]
  clear hv hr ho
  go_enter Tryz.func216, Tryz.ntmps216
  go_wp2_with (first | (go_at_call 248; refine (h18 _ _).mono ?_; rintro e w' ⟨rfl, rfl⟩) | (go_at_call 249; refine (h19 _).mono ?_; rintro e w' ⟨rfl, rfl⟩))
  go_ret2
  exact ⟨rfl, Below.refl _ _⟩
 | none =>
  have hv : fdiv (wd b) (wd c) = NAN := by unfold fdiv; rw [ho]; rfl
  have hop := run_fdiv_none _ _ ho
  have h19 := fun (n : Nat) => resultOf_nan _ (nan_cut (wd b) (wd c) n)
  rw [hv]
  clear hv ho
  go_enter Tryz.func216, Tryz.ntmps216
  go_wp2_with (first | (go_at_call 248; refine (h18 _ _).mono ?_; rintro e w' ⟨rfl, rfl⟩) | (go_at_call 249; refine (h19 _ _).mono ?_; rintro e w' ⟨rfl, rfl⟩))
  go_ret2
  exact ⟨rfl, below_drew _⟩
end Go.Proofs.YthnjeejnnhadeaaGreatDoor.Flt

namespace Go.Proofs.YthnjeejnnhadeaaGreatDoor.Flt
open Go.RowKit
def BIG : Nat := 4890909195324358656
def LOW : Nat := 14114281232179134464
theorem V_big : V BIG = 2 ^ 63 * 2 ^ unit := by
 have e1 : magOf BIG = 2 ^ 52 := by decide
 have e2 : expOf BIG = unit + 11 := by decide
 unfold V
 rw [e1, e2, pow_add', Nat.mul_comm (2 ^ unit), ← Nat.mul_assoc]
theorem K_big : K BIG = ((2 ^ 63 * 2 ^ unit : Nat) : Int) := by
 have r1 : rungOf BIG = BIG := rfl
 have n1 : negOf BIG = false := rfl
 unfold K
 rw [r1, n1, V_big]; rfl
theorem K_low : K LOW = -((2 ^ 63 * 2 ^ unit : Nat) : Int) := by
 have r1 : rungOf LOW = BIG := rfl
 have n1 : negOf LOW = true := rfl
 unfold K
 rw [r1, n1, V_big]; rfl
theorem geq_big (x : Nat) (h : rungOf x ≤ INF) : (FloatKind.f64.format.order x 4890909195324358656 == some .gt || FloatKind.f64.format.order x 4890909195324358656 == some .eq) = decide (((2 ^ 63 * 2 ^ unit : Nat) : Int) ≤ K x) := by
 show (Ieee.double.order x BIG == some .gt || Ieee.double.order x BIG == some .eq) = _
 rw [order_key x BIG h (by decide), ← K_big]
 rcases Int.lt_trichotomy (K x) (K BIG) with h1 | h1 | h1
 ·rw [Int.compare_eq_lt.2 h1]
  have : ¬ K BIG ≤ K x := by omega
  simp [this]
 ·rw [Int.compare_eq_eq.2 h1]
  have : K BIG ≤ K x := by omega
  simp [this]
 ·rw [Int.compare_eq_gt.2 h1]
  have : K BIG ≤ K x := by omega
  simp [this]
theorem lss_low (x : Nat) (h : rungOf x ≤ INF) : (FloatKind.f64.format.order x 14114281232179134464 == some .lt) = decide (K x < -((2 ^ 63 * 2 ^ unit : Nat) : Int)) := by
 have := fless_key x LOW h (by decide)
 rw [K_low] at this
 exact this
theorem part_fits (x : Nat) (h : rungOf x ≤ INF) (h1 : ¬ ((2 ^ 63 * 2 ^ unit : Nat) : Int) ≤ K x) (h2 : ¬ K x < -((2 ^ 63 * 2 ^ unit : Nat) : Int)) : rungOf x < INF ∧ -2 ^ 63 ≤ part x ∧ part x ≤ 2 ^ 63 - 1 := by
 have hu := Nat.two_pow_pos unit
 constructor
 ·rcases Nat.lt_or_eq_of_le h with h' | h'
  ·exact h'
  ·exfalso
   have hv := V_lt BIG INF (by decide)
   rw [V_big] at hv
   unfold K at h1 h2
   rw [h'] at h1 h2
   cases hn : negOf x
   ·rw [hn] at h1
    simp only [Bool.false_eq_true, if_false] at h1
    omega
   ·rw [hn] at h2
    simp only [if_true] at h2
    omega
 ·unfold K at h1 h2
  unfold part
  cases hn : negOf x
  ·rw [hn] at h1 h2
   simp only [Bool.false_eq_true, if_false] at h1 h2 ⊢
   have : V (rungOf x) / 2 ^ unit < 2 ^ 63 := by
    rw [Nat.div_lt_iff_lt_mul hu]; omega
   generalize V (rungOf x) / 2 ^ unit = q at this ⊢
   omega
  ·rw [hn] at h1 h2
   simp only [if_true] at h1 h2 ⊢
   have : V (rungOf x) / 2 ^ unit ≤ 2 ^ 63 := by
    rw [← Nat.mul_div_cancel (2 ^ 63) hu]
    exact Nat.div_le_div_right (by omega)
   generalize V (rungOf x) / 2 ^ unit = q at this ⊢
   omega
set_option maxRecDepth 100000 in
theorem wholeOf_any (x : Nat) (w : World) :
  Calls Tryz.prog 251 #[.float .f64 x] w fun e w' => e = .returned (.int .i64 (fwhole x)) ∧ w' = w := by
 have h29 := isNaN_any x
 by_cases hN : INF < rungOf x
 ·have hv : fwhole x = 0 := by unfold fwhole; rw [if_pos hN]
  rw [decide_eq_true hN] at h29
  rw [hv]
  clear hv
  go_enter Tryz.func251, Tryz.ntmps251
  go_wp2_with (go_at_call 294; refine (h29 _).mono ?_; rintro e w' ⟨rfl, rfl⟩)
  go_ret
  exact ⟨rfl, rfl⟩
 ·have hg := geq_big x (by omega)
  have hl := lss_low x (by omega)
  rw [decide_eq_false hN] at h29
  by_cases c1 : ((2 ^ 63 * 2 ^ unit : Nat) : Int) ≤ K x
  ·have hv : fwhole x = 9223372036854775807 := by unfold fwhole; rw [if_neg hN, if_pos c1]; rfl
   rw [decide_eq_true c1] at hg
   rw [hv]
   clear hv hl c1 hN
   go_enter Tryz.func251, Tryz.ntmps251
   go_wp2_with (go_at_call 294; refine (h29 _).mono ?_; rintro e w' ⟨rfl, rfl⟩)
   go_ret
   exact ⟨rfl, rfl⟩
  ·rw [decide_eq_false c1] at hg
   by_cases c2 : K x < -((2 ^ 63 * 2 ^ unit : Nat) : Int)
   ·have hv : fwhole x = -9223372036854775808 := by unfold fwhole; rw [if_neg hN, if_neg c1, if_pos c2]; rfl
    rw [decide_eq_true c2] at hl
    rw [hv]
    clear hv c2 c1 hN
    go_enter Tryz.func251, Tryz.ntmps251
    go_wp2_with (go_at_call 294; refine (h29 _).mono ?_; rintro e w' ⟨rfl, rfl⟩)
    go_ret
    exact ⟨rfl, rfl⟩
   ·have hv : fwhole x = part x := by unfold fwhole; rw [if_neg hN, if_neg c1, if_neg c2]
    obtain ⟨f1, f2, f3⟩ := part_fits x (by omega) c1 c2
    have ht : floatToIntVal .f64 x .i64 = some (part x) := by
     unfold floatToIntVal
     have : (FloatKind.f64.decode x).toInt .zero = some (part x) := toInt_fin x f1
     rw [this]
     exact if_pos ⟨f2, f3⟩
    have hc : ∀ W : World, (convert 315 2 (.float .f64 x)).run Tryz.prog W = .ok (.int .i64 (part x)) W := fun W => run_convert_float_int W 315 2 .f64 .i64 x (part x) (by kernel_rfl) (by kernel_rfl) ht
    rw [decide_eq_false c2] at hl
    rw [hv]
    clear hv c2 c1 hN ht f1 f2 f3
    go_enter Tryz.func251, Tryz.ntmps251
    go_wp2_with (go_at_call 294; refine (h29 _).mono ?_; rintro e w' ⟨rfl, rfl⟩)
    go_ret
    exact ⟨rfl, rfl⟩
set_option maxRecDepth 100000 in
theorem do_fless (b c : Int) (w : World) :
  Calls Tryz.prog 216 #[.int .i64 19, .int .i64 b, .int .i64 c] w fun e w' => e = .returned (.tuple #[.int .i64 (if fless (wd b) (wd c) then 1 else 0), .int .i64 0]) ∧ Below w.heap.size w w' := by
 have h18 := floatOf_wd
 obtain ⟨v, hv⟩ : ∃ v, v = fless (wd b) (wd c) := ⟨_, rfl⟩
 have hop : (FloatKind.f64.format.order (wd b) (wd c) == some .lt) = v := hv.symm
 have h20 := number_any v
 rw [← hv]
 clear hv
 go_enter Tryz.func216, Tryz.ntmps216
 go_wp2_with (first | (go_at_call 248; refine (h18 _ _).mono ?_; rintro e w' ⟨rfl, rfl⟩) | (go_at_call 250; refine (h20 _).mono ?_; rintro e w' ⟨rfl, rfl⟩))
 all_goals (go_ret2; exact ⟨rfl, Below.refl _ _⟩)
set_option maxRecDepth 100000 in
theorem do_tofloat (b c : Int) (w : World) :
  Calls Tryz.prog 216 #[.int .i64 20, .int .i64 b, .int .i64 c] w fun e w' => e = .returned (.tuple #[.int .i64 (wrap64 (ofInt b)), .int .i64 0]) ∧ Below w.heap.size w w' := by
 have h18 := floatOf_wd
 have hop : ∀ W : World, (convert 2 315 (.int .i64 b)).run Tryz.prog W = .ok (.float .f64 (ofInt b)) W := fun W => run_convert_int_float W 2 315 .i64 .f64 b (by kernel_rfl) (by kernel_rfl)
 have h19 := resultOf_fine (ofInt b) (ofInt_le b)
 go_enter Tryz.func216, Tryz.ntmps216
 go_wp2_with (first | (go_at_call 248; refine (h18 _ _).mono ?_; rintro e w' ⟨rfl, rfl⟩) | (go_at_call 249; refine (h19 _).mono ?_; rintro e w' ⟨rfl, rfl⟩))
 go_ret2
 exact ⟨rfl, Below.refl _ _⟩
set_option maxRecDepth 100000 in
theorem do_toint (b c : Int) (w : World) :
  Calls Tryz.prog 216 #[.int .i64 21, .int .i64 b, .int .i64 c] w fun e w' => e = .returned (.tuple #[.int .i64 (fwhole (wd b)), .int .i64 0]) ∧ Below w.heap.size w w' := by
 have h18 := floatOf_wd
 have h21 := wholeOf_any (wd b)
 go_enter Tryz.func216, Tryz.ntmps216
 go_wp2_with (first | (go_at_call 248; refine (h18 _ _).mono ?_; rintro e w' ⟨rfl, rfl⟩) | (go_at_call 251; refine (h21 _).mono ?_; rintro e w' ⟨rfl, rfl⟩))
 go_ret2
 exact ⟨rfl, Below.refl _ _⟩
end Go.Proofs.YthnjeejnnhadeaaGreatDoor.Flt
