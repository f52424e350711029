/- flt.Do, at each instruction. -/
import Derived.Test.YtfkdaimhdjaefaaDoorFW1
namespace Go.Proofs.YtfkdaimhdjaefaaDoor.Flt
open Go.RowKit

theorem nan_cut (x y : Nat) (n : Nat) : INF < rungOf ((Question.nanBits .f64 x y).cut n) := by
  have e : (Question.nanBits .f64 x y).cut n = (n % 2) * 2 ^ 63 + 0x7ff0000000000000 + 1 + (n / 2) % (2 ^ 52 - 1) := rfl
  rw [e]
  have hI : INF = 2047 * 2 ^ 52 := rfl
  have h1 : (n / 2) % (2 ^ 52 - 1) < 2 ^ 52 - 1 := Nat.mod_lt _ (by decide)
  have h2 : n % 2 < 2 := Nat.mod_lt _ (by decide)
  generalize (n / 2) % (2 ^ 52 - 1) = c at h1 ⊢
  generalize n % 2 = a at h2 ⊢
  have h3 : rungOf (a * 2 ^ 63 + 0x7ff0000000000000 + 1 + c) = 0x7ff0000000000000 + 1 + c := by
    unfold rungOf
    omega
  rw [h3]
  omega

theorem below_drew (w : World) : Below w.heap.size w w.drew := by
  exact (Below.refl _ w).drew

theorem run_fadd_some (x y r : Nat) (h : Ieee.double.add x y = some r) (w : World) : (binOp .add 66 (.float .f64 x) (.float .f64 y)).run Tryd.prog w = .ok (.float .f64 r) w :=
  run_float_arith w .add 66 .f64 x y r h
theorem run_fadd_none (x y : Nat) (h : Ieee.double.add x y = none) (w : World) : (binOp .add 66 (.float .f64 x) (.float .f64 y)).run Tryd.prog w = .ok (.float .f64 ((Question.nanBits .f64 x y).cut (w.tape w.drawn (.nanBits .f64 x y)))) w.drew := by
  have h' : FloatKind.f64.format.add x y = none := h
  simp [binOp, Op.floatArith, h', Question.forced]

set_option maxRecDepth 100000 in
theorem do_fadd (b c : Int) (w : World) :
    Calls Tryd.prog 27 #[.int .i64 15, .int .i64 b, .int .i64 c] w fun e w' => e = .returned (.tuple #[.int .i64 (wrap64 (fadd (wd b) (wd c))), .int .i64 0]) ∧ Below w.heap.size w w' := by
  have h18 := floatOf_wd
  cases ho : Ieee.double.add (wd b) (wd c) with
  | some r =>
    have hv : fadd (wd b) (wd c) = r := by unfold fadd; rw [ho]; rfl
    have hr := (add_fine _ _ _ ho).1
    have hop := run_fadd_some _ _ _ ho
    have h19 := resultOf_fine r hr
    rw [hv]
    clear hv hr ho
    go_enter Tryd.func27, Tryd.ntmps27
    go_wp2_with (first | (go_at_call 33; refine (h18 _ _).mono ?_; rintro e w' ⟨rfl, rfl⟩) | (go_at_call 34; refine (h19 _).mono ?_; rintro e w' ⟨rfl, rfl⟩))
    go_ret2
    exact ⟨rfl, Below.refl _ _⟩
  | none =>
    have hv : fadd (wd b) (wd c) = NAN := by unfold fadd; rw [ho]; rfl
    have hop := run_fadd_none _ _ ho
    have h19 := fun (n : Nat) => resultOf_nan _ (nan_cut (wd b) (wd c) n)
    rw [hv]
    clear hv ho
    go_enter Tryd.func27, Tryd.ntmps27
    go_wp2_with (first | (go_at_call 33; refine (h18 _ _).mono ?_; rintro e w' ⟨rfl, rfl⟩) | (go_at_call 34; refine (h19 _ _).mono ?_; rintro e w' ⟨rfl, rfl⟩))
    go_ret2
    exact ⟨rfl, below_drew _⟩

theorem run_fsub_some (x y r : Nat) (h : Ieee.double.sub x y = some r) (w : World) : (binOp .sub 66 (.float .f64 x) (.float .f64 y)).run Tryd.prog w = .ok (.float .f64 r) w :=
  run_float_arith w .sub 66 .f64 x y r h
theorem run_fsub_none (x y : Nat) (h : Ieee.double.sub x y = none) (w : World) : (binOp .sub 66 (.float .f64 x) (.float .f64 y)).run Tryd.prog w = .ok (.float .f64 ((Question.nanBits .f64 x y).cut (w.tape w.drawn (.nanBits .f64 x y)))) w.drew := by
  have h' : FloatKind.f64.format.sub x y = none := h
  simp [binOp, Op.floatArith, h', Question.forced]

set_option maxRecDepth 100000 in
theorem do_fsub (b c : Int) (w : World) :
    Calls Tryd.prog 27 #[.int .i64 16, .int .i64 b, .int .i64 c] w fun e w' => e = .returned (.tuple #[.int .i64 (wrap64 (fsub (wd b) (wd c))), .int .i64 0]) ∧ Below w.heap.size w w' := by
  have h18 := floatOf_wd
  cases ho : Ieee.double.sub (wd b) (wd c) with
  | some r =>
    have hv : fsub (wd b) (wd c) = r := by unfold fsub; rw [ho]; rfl
    have hr := (sub_fine _ _ _ ho).1
    have hop := run_fsub_some _ _ _ ho
    have h19 := resultOf_fine r hr
    rw [hv]
    clear hv hr ho
    go_enter Tryd.func27, Tryd.ntmps27
    go_wp2_with (first | (go_at_call 33; refine (h18 _ _).mono ?_; rintro e w' ⟨rfl, rfl⟩) | (go_at_call 34; refine (h19 _).mono ?_; rintro e w' ⟨rfl, rfl⟩))
    go_ret2
    exact ⟨rfl, Below.refl _ _⟩
  | none =>
    have hv : fsub (wd b) (wd c) = NAN := by unfold fsub; rw [ho]; rfl
    have hop := run_fsub_none _ _ ho
    have h19 := fun (n : Nat) => resultOf_nan _ (nan_cut (wd b) (wd c) n)
    rw [hv]
    clear hv ho
    go_enter Tryd.func27, Tryd.ntmps27
    go_wp2_with (first | (go_at_call 33; refine (h18 _ _).mono ?_; rintro e w' ⟨rfl, rfl⟩) | (go_at_call 34; refine (h19 _ _).mono ?_; rintro e w' ⟨rfl, rfl⟩))
    go_ret2
    exact ⟨rfl, below_drew _⟩

theorem run_fmul_some (x y r : Nat) (h : Ieee.double.mul x y = some r) (w : World) : (binOp .mul 66 (.float .f64 x) (.float .f64 y)).run Tryd.prog w = .ok (.float .f64 r) w :=
  run_float_arith w .mul 66 .f64 x y r h
theorem run_fmul_none (x y : Nat) (h : Ieee.double.mul x y = none) (w : World) : (binOp .mul 66 (.float .f64 x) (.float .f64 y)).run Tryd.prog w = .ok (.float .f64 ((Question.nanBits .f64 x y).cut (w.tape w.drawn (.nanBits .f64 x y)))) w.drew := by
  have h' : FloatKind.f64.format.mul x y = none := h
  simp [binOp, Op.floatArith, h', Question.forced]

set_option maxRecDepth 100000 in
theorem do_fmul (b c : Int) (w : World) :
    Calls Tryd.prog 27 #[.int .i64 17, .int .i64 b, .int .i64 c] w fun e w' => e = .returned (.tuple #[.int .i64 (wrap64 (fmul (wd b) (wd c))), .int .i64 0]) ∧ Below w.heap.size w w' := by
  have h18 := floatOf_wd
  cases ho : Ieee.double.mul (wd b) (wd c) with
  | some r =>
    have hv : fmul (wd b) (wd c) = r := by unfold fmul; rw [ho]; rfl
    have hr := (mul_fine _ _ _ ho).1
    have hop := run_fmul_some _ _ _ ho
    have h19 := resultOf_fine r hr
    rw [hv]
    clear hv hr ho
    go_enter Tryd.func27, Tryd.ntmps27
    go_wp2_with (first | (go_at_call 33; refine (h18 _ _).mono ?_; rintro e w' ⟨rfl, rfl⟩) | (go_at_call 34; refine (h19 _).mono ?_; rintro e w' ⟨rfl, rfl⟩))
    go_ret2
    exact ⟨rfl, Below.refl _ _⟩
  | none =>
    have hv : fmul (wd b) (wd c) = NAN := by unfold fmul; rw [ho]; rfl
    have hop := run_fmul_none _ _ ho
    have h19 := fun (n : Nat) => resultOf_nan _ (nan_cut (wd b) (wd c) n)
    rw [hv]
    clear hv ho
    go_enter Tryd.func27, Tryd.ntmps27
    go_wp2_with (first | (go_at_call 33; refine (h18 _ _).mono ?_; rintro e w' ⟨rfl, rfl⟩) | (go_at_call 34; refine (h19 _ _).mono ?_; rintro e w' ⟨rfl, rfl⟩))
    go_ret2
    exact ⟨rfl, below_drew _⟩

theorem run_fdiv_some (x y r : Nat) (h : Ieee.double.div x y = some r) (w : World) : (binOp .quo 66 (.float .f64 x) (.float .f64 y)).run Tryd.prog w = .ok (.float .f64 r) w :=
  run_float_arith w .quo 66 .f64 x y r h
theorem run_fdiv_none (x y : Nat) (h : Ieee.double.div x y = none) (w : World) : (binOp .quo 66 (.float .f64 x) (.float .f64 y)).run Tryd.prog w = .ok (.float .f64 ((Question.nanBits .f64 x y).cut (w.tape w.drawn (.nanBits .f64 x y)))) w.drew := by
  have h' : FloatKind.f64.format.div x y = none := h
  simp [binOp, Op.floatArith, h', Question.forced]

set_option maxRecDepth 100000 in
theorem do_fdiv (b c : Int) (w : World) :
    Calls Tryd.prog 27 #[.int .i64 18, .int .i64 b, .int .i64 c] w fun e w' => e = .returned (.tuple #[.int .i64 (wrap64 (fdiv (wd b) (wd c))), .int .i64 0]) ∧ Below w.heap.size w w' := by
  have h18 := floatOf_wd
  cases ho : Ieee.double.div (wd b) (wd c) with
  | some r =>
    have hv : fdiv (wd b) (wd c) = r := by unfold fdiv; rw [ho]; rfl
    have hr := (div_fine _ _ _ ho).1
    have hop := run_fdiv_some _ _ _ ho
    have h19 := resultOf_fine r hr
    rw [hv]
    clear hv hr ho
    go_enter Tryd.func27, Tryd.ntmps27
    go_wp2_with (first | (go_at_call 33; refine (h18 _ _).mono ?_; rintro e w' ⟨rfl, rfl⟩) | (go_at_call 34; refine (h19 _).mono ?_; rintro e w' ⟨rfl, rfl⟩))
    go_ret2
    exact ⟨rfl, Below.refl _ _⟩
  | none =>
    have hv : fdiv (wd b) (wd c) = NAN := by unfold fdiv; rw [ho]; rfl
    have hop := run_fdiv_none _ _ ho
    have h19 := fun (n : Nat) => resultOf_nan _ (nan_cut (wd b) (wd c) n)
    rw [hv]
    clear hv ho
    go_enter Tryd.func27, Tryd.ntmps27
    go_wp2_with (first | (go_at_call 33; refine (h18 _ _).mono ?_; rintro e w' ⟨rfl, rfl⟩) | (go_at_call 34; refine (h19 _ _).mono ?_; rintro e w' ⟨rfl, rfl⟩))
    go_ret2
    exact ⟨rfl, below_drew _⟩
end Go.Proofs.YtfkdaimhdjaefaaDoor.Flt
