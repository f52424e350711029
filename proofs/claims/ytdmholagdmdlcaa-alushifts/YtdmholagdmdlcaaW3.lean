/- alu.Do, at each instruction. -/
import Derived.Test.YtdmholagdmdlcaaW2
namespace Go.Proofs.Ytdmholagdmdlcaa
open Go.RowKit

set_option maxRecDepth 100000 in
set_option maxHeartbeats 1000000 in
theorem do_add (b c : Int) (w : World) :
    Calls Try.prog 8 #[.int .i64 3, .int .i64 b, .int .i64 c] w fun e w' => e = .returned (.tuple #[.int .i64 (iadd b c), .int .i64 0]) ∧ Below w.heap.size w w' := by
  have hz := zero31
  have hb1 : tabA.size = 12 := rfl
  have hb2 : nil12.size = 12 := rfl
  go_enter Try.func8, Try.ntmps8
  go_wp2_with fail
  refine (functions_any _).mono ?_
  rintro e w1 ⟨rfl, h1⟩
  obtain ⟨W, hst, hrow, hbw⟩ := store31 w1
  have hc : W.cell? ⟨w1.heap.size, 0, none⟩ = some (.func (.func 17) #[] #[]) := by rw [cell_of_row W _ _ tabA 31 (0, 0) hrow]; rfl
  have hB : Below w.heap.size w W := h1.trans (hbw.mono h1.size)
  clear hrow hbw h1
  go_wp2_with (go_at_call 17; refine (add_any b c _).mono ?_; rintro e w' ⟨rfl, rfl⟩)
  go_ret2
  exact ⟨rfl, hB⟩

set_option maxRecDepth 100000 in
set_option maxHeartbeats 1000000 in
theorem do_sub (b c : Int) (w : World) :
    Calls Try.prog 8 #[.int .i64 4, .int .i64 b, .int .i64 c] w fun e w' => e = .returned (.tuple #[.int .i64 (isub b c), .int .i64 0]) ∧ Below w.heap.size w w' := by
  have hz := zero31
  have hb1 : tabA.size = 12 := rfl
  have hb2 : nil12.size = 12 := rfl
  go_enter Try.func8, Try.ntmps8
  go_wp2_with fail
  refine (functions_any _).mono ?_
  rintro e w1 ⟨rfl, h1⟩
  obtain ⟨W, hst, hrow, hbw⟩ := store31 w1
  have hc : W.cell? ⟨w1.heap.size, 1, none⟩ = some (.func (.func 18) #[] #[]) := by rw [cell_of_row W _ _ tabA 31 (0, 0) hrow]; rfl
  have hB : Below w.heap.size w W := h1.trans (hbw.mono h1.size)
  clear hrow hbw h1
  go_wp2_with (go_at_call 18; refine (sub_any b c _).mono ?_; rintro e w' ⟨rfl, rfl⟩)
  go_ret2
  exact ⟨rfl, hB⟩

set_option maxRecDepth 100000 in
set_option maxHeartbeats 1000000 in
theorem do_mul (b c : Int) (w : World) :
    Calls Try.prog 8 #[.int .i64 5, .int .i64 b, .int .i64 c] w fun e w' => e = .returned (.tuple #[.int .i64 (imul b c), .int .i64 0]) ∧ Below w.heap.size w w' := by
  have hz := zero31
  have hb1 : tabA.size = 12 := rfl
  have hb2 : nil12.size = 12 := rfl
  go_enter Try.func8, Try.ntmps8
  go_wp2_with fail
  refine (functions_any _).mono ?_
  rintro e w1 ⟨rfl, h1⟩
  obtain ⟨W, hst, hrow, hbw⟩ := store31 w1
  have hc : W.cell? ⟨w1.heap.size, 2, none⟩ = some (.func (.func 19) #[] #[]) := by rw [cell_of_row W _ _ tabA 31 (0, 0) hrow]; rfl
  have hB : Below w.heap.size w W := h1.trans (hbw.mono h1.size)
  clear hrow hbw h1
  go_wp2_with (go_at_call 19; refine (mul_any b c _).mono ?_; rintro e w' ⟨rfl, rfl⟩)
  go_ret2
  exact ⟨rfl, hB⟩

set_option maxRecDepth 100000 in
set_option maxHeartbeats 1000000 in
theorem do_div (b c : Int) (w : World) :
    Calls Try.prog 8 #[.int .i64 6, .int .i64 b, .int .i64 c] w fun e w' => e = .returned (.tuple #[.int .i64 (idiv b c), .int .i64 0]) ∧ Below w.heap.size w w' := by
  have hz := zero31
  have hb1 : tabA.size = 12 := rfl
  have hb2 : nil12.size = 12 := rfl
  go_enter Try.func8, Try.ntmps8
  go_wp2_with fail
  refine (functions_any _).mono ?_
  rintro e w1 ⟨rfl, h1⟩
  obtain ⟨W, hst, hrow, hbw⟩ := store31 w1
  have hc : W.cell? ⟨w1.heap.size, 3, none⟩ = some (.func (.func 20) #[] #[]) := by rw [cell_of_row W _ _ tabA 31 (0, 0) hrow]; rfl
  have hB : Below w.heap.size w W := h1.trans (hbw.mono h1.size)
  clear hrow hbw h1
  go_wp2_with (go_at_call 20; refine (div_any b c _).mono ?_; rintro e w' ⟨rfl, rfl⟩)
  go_ret2
  exact ⟨rfl, hB⟩

set_option maxRecDepth 100000 in
set_option maxHeartbeats 1000000 in
theorem do_rem (b c : Int) (w : World) :
    Calls Try.prog 8 #[.int .i64 7, .int .i64 b, .int .i64 c] w fun e w' => e = .returned (.tuple #[.int .i64 (irem b c), .int .i64 0]) ∧ Below w.heap.size w w' := by
  have hz := zero31
  have hb1 : tabA.size = 12 := rfl
  have hb2 : nil12.size = 12 := rfl
  go_enter Try.func8, Try.ntmps8
  go_wp2_with fail
  refine (functions_any _).mono ?_
  rintro e w1 ⟨rfl, h1⟩
  obtain ⟨W, hst, hrow, hbw⟩ := store31 w1
  have hc : W.cell? ⟨w1.heap.size, 4, none⟩ = some (.func (.func 21) #[] #[]) := by rw [cell_of_row W _ _ tabA 31 (0, 0) hrow]; rfl
  have hB : Below w.heap.size w W := h1.trans (hbw.mono h1.size)
  clear hrow hbw h1
  go_wp2_with (go_at_call 21; refine (rem_any b c _).mono ?_; rintro e w' ⟨rfl, rfl⟩)
  go_ret2
  exact ⟨rfl, hB⟩

set_option maxRecDepth 100000 in
set_option maxHeartbeats 1000000 in
theorem do_and (b c : Int) (w : World) :
    Calls Try.prog 8 #[.int .i64 8, .int .i64 b, .int .i64 c] w fun e w' => e = .returned (.tuple #[.int .i64 (iand b c), .int .i64 0]) ∧ Below w.heap.size w w' := by
  have hz := zero31
  have hb1 : tabA.size = 12 := rfl
  have hb2 : nil12.size = 12 := rfl
  go_enter Try.func8, Try.ntmps8
  go_wp2_with fail
  refine (functions_any _).mono ?_
  rintro e w1 ⟨rfl, h1⟩
  obtain ⟨W, hst, hrow, hbw⟩ := store31 w1
  have hc : W.cell? ⟨w1.heap.size, 5, none⟩ = some (.func (.func 22) #[] #[]) := by rw [cell_of_row W _ _ tabA 31 (0, 0) hrow]; rfl
  have hB : Below w.heap.size w W := h1.trans (hbw.mono h1.size)
  clear hrow hbw h1
  go_wp2_with (go_at_call 22; refine (and_any b c _).mono ?_; rintro e w' ⟨rfl, rfl⟩)
  go_ret2
  exact ⟨rfl, hB⟩

set_option maxRecDepth 100000 in
set_option maxHeartbeats 1000000 in
theorem do_or (b c : Int) (w : World) :
    Calls Try.prog 8 #[.int .i64 9, .int .i64 b, .int .i64 c] w fun e w' => e = .returned (.tuple #[.int .i64 (ior b c), .int .i64 0]) ∧ Below w.heap.size w w' := by
  have hz := zero31
  have hb1 : tabA.size = 12 := rfl
  have hb2 : nil12.size = 12 := rfl
  go_enter Try.func8, Try.ntmps8
  go_wp2_with fail
  refine (functions_any _).mono ?_
  rintro e w1 ⟨rfl, h1⟩
  obtain ⟨W, hst, hrow, hbw⟩ := store31 w1
  have hc : W.cell? ⟨w1.heap.size, 6, none⟩ = some (.func (.func 23) #[] #[]) := by rw [cell_of_row W _ _ tabA 31 (0, 0) hrow]; rfl
  have hB : Below w.heap.size w W := h1.trans (hbw.mono h1.size)
  clear hrow hbw h1
  go_wp2_with (go_at_call 23; refine (or_any b c _).mono ?_; rintro e w' ⟨rfl, rfl⟩)
  go_ret2
  exact ⟨rfl, hB⟩

set_option maxRecDepth 100000 in
set_option maxHeartbeats 1000000 in
theorem do_xor (b c : Int) (w : World) :
    Calls Try.prog 8 #[.int .i64 10, .int .i64 b, .int .i64 c] w fun e w' => e = .returned (.tuple #[.int .i64 (ixor b c), .int .i64 0]) ∧ Below w.heap.size w w' := by
  have hz := zero31
  have hb1 : tabA.size = 12 := rfl
  have hb2 : nil12.size = 12 := rfl
  go_enter Try.func8, Try.ntmps8
  go_wp2_with fail
  refine (functions_any _).mono ?_
  rintro e w1 ⟨rfl, h1⟩
  obtain ⟨W, hst, hrow, hbw⟩ := store31 w1
  have hc : W.cell? ⟨w1.heap.size, 7, none⟩ = some (.func (.func 24) #[] #[]) := by rw [cell_of_row W _ _ tabA 31 (0, 0) hrow]; rfl
  have hB : Below w.heap.size w W := h1.trans (hbw.mono h1.size)
  clear hrow hbw h1
  go_wp2_with (go_at_call 24; refine (xor_any b c _).mono ?_; rintro e w' ⟨rfl, rfl⟩)
  go_ret2
  exact ⟨rfl, hB⟩

set_option maxRecDepth 100000 in
set_option maxHeartbeats 1000000 in
theorem do_shl (b c : Int) (w : World) :
    Calls Try.prog 8 #[.int .i64 11, .int .i64 b, .int .i64 c] w fun e w' => e = .returned (.tuple #[.int .i64 (ishl b c), .int .i64 0]) ∧ Below w.heap.size w w' := by
  have hz := zero31
  have hb1 : tabA.size = 12 := rfl
  have hb2 : nil12.size = 12 := rfl
  go_enter Try.func8, Try.ntmps8
  go_wp2_with fail
  refine (functions_any _).mono ?_
  rintro e w1 ⟨rfl, h1⟩
  obtain ⟨W, hst, hrow, hbw⟩ := store31 w1
  have hc : W.cell? ⟨w1.heap.size, 8, none⟩ = some (.func (.func 25) #[] #[]) := by rw [cell_of_row W _ _ tabA 31 (0, 0) hrow]; rfl
  have hB : Below w.heap.size w W := h1.trans (hbw.mono h1.size)
  clear hrow hbw h1
  go_wp2_with (go_at_call 25; refine (shl_any b c _).mono ?_; rintro e w' ⟨rfl, rfl⟩)
  go_ret2
  exact ⟨rfl, hB⟩

set_option maxRecDepth 100000 in
set_option maxHeartbeats 1000000 in
theorem do_shr (b c : Int) (w : World) :
    Calls Try.prog 8 #[.int .i64 12, .int .i64 b, .int .i64 c] w fun e w' => e = .returned (.tuple #[.int .i64 (ishr b c), .int .i64 0]) ∧ Below w.heap.size w w' := by
  have hz := zero31
  have hb1 : tabA.size = 12 := rfl
  have hb2 : nil12.size = 12 := rfl
  go_enter Try.func8, Try.ntmps8
  go_wp2_with fail
  refine (functions_any _).mono ?_
  rintro e w1 ⟨rfl, h1⟩
  obtain ⟨W, hst, hrow, hbw⟩ := store31 w1
  have hc : W.cell? ⟨w1.heap.size, 9, none⟩ = some (.func (.func 26) #[] #[]) := by rw [cell_of_row W _ _ tabA 31 (0, 0) hrow]; rfl
  have hB : Below w.heap.size w W := h1.trans (hbw.mono h1.size)
  clear hrow hbw h1
  go_wp2_with (go_at_call 26; refine (shr_any b c _).mono ?_; rintro e w' ⟨rfl, rfl⟩)
  go_ret2
  exact ⟨rfl, hB⟩

set_option maxRecDepth 100000 in
set_option maxHeartbeats 1000000 in
theorem do_less (b c : Int) (w : World) :
    Calls Try.prog 8 #[.int .i64 13, .int .i64 b, .int .i64 c] w fun e w' => e = .returned (.tuple #[.int .i64 (iless b c), .int .i64 0]) ∧ Below w.heap.size w w' := by
  have hz := zero31
  have hb1 : tabA.size = 12 := rfl
  have hb2 : nil12.size = 12 := rfl
  go_enter Try.func8, Try.ntmps8
  go_wp2_with fail
  refine (functions_any _).mono ?_
  rintro e w1 ⟨rfl, h1⟩
  obtain ⟨W, hst, hrow, hbw⟩ := store31 w1
  have hc : W.cell? ⟨w1.heap.size, 10, none⟩ = some (.func (.func 27) #[] #[]) := by rw [cell_of_row W _ _ tabA 31 (0, 0) hrow]; rfl
  have hB : Below w.heap.size w W := h1.trans (hbw.mono h1.size)
  clear hrow hbw h1
  go_wp2_with (go_at_call 27; refine (less_any b c _).mono ?_; rintro e w' ⟨rfl, rfl⟩)
  go_ret2
  exact ⟨rfl, hB⟩

set_option maxRecDepth 100000 in
set_option maxHeartbeats 1000000 in
theorem do_equal (b c : Int) (w : World) :
    Calls Try.prog 8 #[.int .i64 14, .int .i64 b, .int .i64 c] w fun e w' => e = .returned (.tuple #[.int .i64 (iequal b c), .int .i64 0]) ∧ Below w.heap.size w w' := by
  have hz := zero31
  have hb1 : tabA.size = 12 := rfl
  have hb2 : nil12.size = 12 := rfl
  go_enter Try.func8, Try.ntmps8
  go_wp2_with fail
  refine (functions_any _).mono ?_
  rintro e w1 ⟨rfl, h1⟩
  obtain ⟨W, hst, hrow, hbw⟩ := store31 w1
  have hc : W.cell? ⟨w1.heap.size, 11, none⟩ = some (.func (.func 28) #[] #[]) := by rw [cell_of_row W _ _ tabA 31 (0, 0) hrow]; rfl
  have hB : Below w.heap.size w W := h1.trans (hbw.mono h1.size)
  clear hrow hbw h1
  go_wp2_with (go_at_call 28; refine (equal_any b c _).mono ?_; rintro e w' ⟨rfl, rfl⟩)
  go_ret2
  exact ⟨rfl, hB⟩

set_option maxHeartbeats 1000000 in
theorem do_below (op b c : Int) (h : op < 3) (w : World) :
    Calls Try.prog 8 #[.int .i64 op, .int .i64 b, .int .i64 c] w fun e w' => e = .returned (.tuple #[.int .i64 0, .int .i64 9]) ∧ Below w.heap.size w w' := by
  go_enter Try.func8, Try.ntmps8
  go_wp2
  go_ret2
  exact ⟨rfl, Below.refl _ _⟩

set_option maxHeartbeats 1000000 in
theorem do_above (op b c : Int) (h : 14 < op) (w : World) :
    Calls Try.prog 8 #[.int .i64 op, .int .i64 b, .int .i64 c] w fun e w' => e = .returned (.tuple #[.int .i64 0, .int .i64 9]) ∧ Below w.heap.size w w' := by
  have h1 : decide (op < 3) = false := by simp; omega
  go_enter Try.func8, Try.ntmps8
  go_wp2
  go_ret2
  exact ⟨rfl, Below.refl _ _⟩

set_option maxHeartbeats 400000 in
theorem d_add (b c : Int) (w : World) :
    Calls Try.prog 10 #[.int .i64 3, .int .i64 b, .int .i64 c] w fun e w' => e = .returned (.int .i64 (iadd b c)) ∧ Below w.heap.size w w' := by
  go_enter Try.func10, Try.ntmps10
  go_wp2_with (go_at_call 8; refine (do_add b c _).mono ?_; rintro e w' ⟨rfl, hb⟩)
  go_ret
  exact ⟨rfl, hb⟩

set_option maxHeartbeats 400000 in
theorem d_sub (b c : Int) (w : World) :
    Calls Try.prog 10 #[.int .i64 4, .int .i64 b, .int .i64 c] w fun e w' => e = .returned (.int .i64 (isub b c)) ∧ Below w.heap.size w w' := by
  go_enter Try.func10, Try.ntmps10
  go_wp2_with (go_at_call 8; refine (do_sub b c _).mono ?_; rintro e w' ⟨rfl, hb⟩)
  go_ret
  exact ⟨rfl, hb⟩

set_option maxHeartbeats 400000 in
theorem d_mul (b c : Int) (w : World) :
    Calls Try.prog 10 #[.int .i64 5, .int .i64 b, .int .i64 c] w fun e w' => e = .returned (.int .i64 (imul b c)) ∧ Below w.heap.size w w' := by
  go_enter Try.func10, Try.ntmps10
  go_wp2_with (go_at_call 8; refine (do_mul b c _).mono ?_; rintro e w' ⟨rfl, hb⟩)
  go_ret
  exact ⟨rfl, hb⟩

set_option maxHeartbeats 400000 in
theorem d_div (b c : Int) (w : World) :
    Calls Try.prog 10 #[.int .i64 6, .int .i64 b, .int .i64 c] w fun e w' => e = .returned (.int .i64 (idiv b c)) ∧ Below w.heap.size w w' := by
  go_enter Try.func10, Try.ntmps10
  go_wp2_with (go_at_call 8; refine (do_div b c _).mono ?_; rintro e w' ⟨rfl, hb⟩)
  go_ret
  exact ⟨rfl, hb⟩

set_option maxHeartbeats 400000 in
theorem d_rem (b c : Int) (w : World) :
    Calls Try.prog 10 #[.int .i64 7, .int .i64 b, .int .i64 c] w fun e w' => e = .returned (.int .i64 (irem b c)) ∧ Below w.heap.size w w' := by
  go_enter Try.func10, Try.ntmps10
  go_wp2_with (go_at_call 8; refine (do_rem b c _).mono ?_; rintro e w' ⟨rfl, hb⟩)
  go_ret
  exact ⟨rfl, hb⟩

set_option maxHeartbeats 400000 in
theorem d_and (b c : Int) (w : World) :
    Calls Try.prog 10 #[.int .i64 8, .int .i64 b, .int .i64 c] w fun e w' => e = .returned (.int .i64 (iand b c)) ∧ Below w.heap.size w w' := by
  go_enter Try.func10, Try.ntmps10
  go_wp2_with (go_at_call 8; refine (do_and b c _).mono ?_; rintro e w' ⟨rfl, hb⟩)
  go_ret
  exact ⟨rfl, hb⟩

set_option maxHeartbeats 400000 in
theorem d_or (b c : Int) (w : World) :
    Calls Try.prog 10 #[.int .i64 9, .int .i64 b, .int .i64 c] w fun e w' => e = .returned (.int .i64 (ior b c)) ∧ Below w.heap.size w w' := by
  go_enter Try.func10, Try.ntmps10
  go_wp2_with (go_at_call 8; refine (do_or b c _).mono ?_; rintro e w' ⟨rfl, hb⟩)
  go_ret
  exact ⟨rfl, hb⟩

set_option maxHeartbeats 400000 in
theorem d_xor (b c : Int) (w : World) :
    Calls Try.prog 10 #[.int .i64 10, .int .i64 b, .int .i64 c] w fun e w' => e = .returned (.int .i64 (ixor b c)) ∧ Below w.heap.size w w' := by
  go_enter Try.func10, Try.ntmps10
  go_wp2_with (go_at_call 8; refine (do_xor b c _).mono ?_; rintro e w' ⟨rfl, hb⟩)
  go_ret
  exact ⟨rfl, hb⟩

set_option maxHeartbeats 400000 in
theorem d_shl (b c : Int) (w : World) :
    Calls Try.prog 10 #[.int .i64 11, .int .i64 b, .int .i64 c] w fun e w' => e = .returned (.int .i64 (ishl b c)) ∧ Below w.heap.size w w' := by
  go_enter Try.func10, Try.ntmps10
  go_wp2_with (go_at_call 8; refine (do_shl b c _).mono ?_; rintro e w' ⟨rfl, hb⟩)
  go_ret
  exact ⟨rfl, hb⟩

set_option maxHeartbeats 400000 in
theorem d_shr (b c : Int) (w : World) :
    Calls Try.prog 10 #[.int .i64 12, .int .i64 b, .int .i64 c] w fun e w' => e = .returned (.int .i64 (ishr b c)) ∧ Below w.heap.size w w' := by
  go_enter Try.func10, Try.ntmps10
  go_wp2_with (go_at_call 8; refine (do_shr b c _).mono ?_; rintro e w' ⟨rfl, hb⟩)
  go_ret
  exact ⟨rfl, hb⟩

set_option maxHeartbeats 400000 in
theorem d_less (b c : Int) (w : World) :
    Calls Try.prog 10 #[.int .i64 13, .int .i64 b, .int .i64 c] w fun e w' => e = .returned (.int .i64 (iless b c)) ∧ Below w.heap.size w w' := by
  go_enter Try.func10, Try.ntmps10
  go_wp2_with (go_at_call 8; refine (do_less b c _).mono ?_; rintro e w' ⟨rfl, hb⟩)
  go_ret
  exact ⟨rfl, hb⟩

set_option maxHeartbeats 400000 in
theorem d_equal (b c : Int) (w : World) :
    Calls Try.prog 10 #[.int .i64 14, .int .i64 b, .int .i64 c] w fun e w' => e = .returned (.int .i64 (iequal b c)) ∧ Below w.heap.size w w' := by
  go_enter Try.func10, Try.ntmps10
  go_wp2_with (go_at_call 8; refine (do_equal b c _).mono ?_; rintro e w' ⟨rfl, hb⟩)
  go_ret
  exact ⟨rfl, hb⟩

set_option maxRecDepth 100000 in
set_option maxHeartbeats 1000000 in
theorem fixed_any (w : World) :
    Calls Try.prog 7 #[] w fun e w' => e = .returned (.bool true) ∧ Below w.heap.size w w' := by
  have e1 : idiv 7 (-2) = -3 := by decide +kernel
  have e2 : irem 7 (-2) = 1 := by decide +kernel
  have h1 := do_div 7 (-2)
  have h2 := do_rem 7 (-2)
  have h3 := do_below 2 1 1 (by decide)
  rw [e1] at h1
  rw [e2] at h2
  clear e1 e2
  go_enter Try.func7, Try.ntmps7
  go_wp2_with fail
  refine (h1 _).mono ?_
  rintro e w1 ⟨rfl, b1⟩
  go_wp2_with fail
  refine (h2 _).mono ?_
  rintro e w2 ⟨rfl, b2⟩
  go_wp2_with fail
  refine (h3 _).mono ?_
  rintro e w3 ⟨rfl, b3⟩
  go_wp2
  go_ret
  exact ⟨rfl, b1.trans ((b2.mono b1.size).trans (b3.mono (Nat.le_trans b1.size b2.size)))⟩

set_option maxHeartbeats 400000 in
theorem aluNames_walk (w : World) :
    Calls Try.prog 3 #[] w fun e w' => e = .returned (.bool true) ∧ Below w.heap.size w w' := by
  go_enter Try.func3, Try.ntmps3
  go_wp2_with (go_at_call 7; refine (fixed_any _).mono ?_; rintro e w' ⟨rfl, hb⟩)
  go_ret
  exact ⟨rfl, hb⟩
end Go.Proofs.Ytdmholagdmdlcaa
