/- alu.Do, at each instruction. -/
import Derived.Test.YtfkdaimhdjaefaaDoorGAa
namespace Go.Proofs.YtfkdaimhdjaefaaDoor.Alu
open Go.RowKit

set_option maxRecDepth 100000 in
set_option maxHeartbeats 1000000 in
theorem do_add (b c : Int) (w : World) :
    Calls Tryd.prog 26 #[.int .i64 3, .int .i64 b, .int .i64 c] w fun e w' => e = .returned (.tuple #[.int .i64 (iadd b c), .int .i64 0]) ∧ Below w.heap.size w w' := by
  have hz := zero31
  have hb1 : tabA.size = 12 := rfl
  have hb2 : nil12.size = 12 := rfl
  go_enter Tryd.func26, Tryd.ntmps26
  go_wp2_with fail
  refine (functions_any _).mono ?_
  rintro e w1 ⟨rfl, h1⟩
  obtain ⟨W, hst, hrow, hbw⟩ := store31 w1
  have hc : W.cell? ⟨w1.heap.size, 0, none⟩ = some (.func (.func 54) #[] #[]) := by rw [cell_of_row W _ _ tabA 64 (0, 0) hrow]; rfl
  have hB : Below w.heap.size w W := h1.trans (hbw.mono h1.size)
  clear hrow hbw h1
  go_wp2_with (go_at_call 54; refine (add_any b c _).mono ?_; rintro e w' ⟨rfl, rfl⟩)
  go_ret2
  exact ⟨rfl, hB⟩

set_option maxRecDepth 100000 in
set_option maxHeartbeats 1000000 in
theorem do_sub (b c : Int) (w : World) :
    Calls Tryd.prog 26 #[.int .i64 4, .int .i64 b, .int .i64 c] w fun e w' => e = .returned (.tuple #[.int .i64 (isub b c), .int .i64 0]) ∧ Below w.heap.size w w' := by
  have hz := zero31
  have hb1 : tabA.size = 12 := rfl
  have hb2 : nil12.size = 12 := rfl
  go_enter Tryd.func26, Tryd.ntmps26
  go_wp2_with fail
  refine (functions_any _).mono ?_
  rintro e w1 ⟨rfl, h1⟩
  obtain ⟨W, hst, hrow, hbw⟩ := store31 w1
  have hc : W.cell? ⟨w1.heap.size, 1, none⟩ = some (.func (.func 55) #[] #[]) := by rw [cell_of_row W _ _ tabA 64 (0, 0) hrow]; rfl
  have hB : Below w.heap.size w W := h1.trans (hbw.mono h1.size)
  clear hrow hbw h1
  go_wp2_with (go_at_call 55; refine (sub_any b c _).mono ?_; rintro e w' ⟨rfl, rfl⟩)
  go_ret2
  exact ⟨rfl, hB⟩

set_option maxRecDepth 100000 in
set_option maxHeartbeats 1000000 in
theorem do_mul (b c : Int) (w : World) :
    Calls Tryd.prog 26 #[.int .i64 5, .int .i64 b, .int .i64 c] w fun e w' => e = .returned (.tuple #[.int .i64 (imul b c), .int .i64 0]) ∧ Below w.heap.size w w' := by
  have hz := zero31
  have hb1 : tabA.size = 12 := rfl
  have hb2 : nil12.size = 12 := rfl
  go_enter Tryd.func26, Tryd.ntmps26
  go_wp2_with fail
  refine (functions_any _).mono ?_
  rintro e w1 ⟨rfl, h1⟩
  obtain ⟨W, hst, hrow, hbw⟩ := store31 w1
  have hc : W.cell? ⟨w1.heap.size, 2, none⟩ = some (.func (.func 56) #[] #[]) := by rw [cell_of_row W _ _ tabA 64 (0, 0) hrow]; rfl
  have hB : Below w.heap.size w W := h1.trans (hbw.mono h1.size)
  clear hrow hbw h1
  go_wp2_with (go_at_call 56; refine (mul_any b c _).mono ?_; rintro e w' ⟨rfl, rfl⟩)
  go_ret2
  exact ⟨rfl, hB⟩

set_option maxRecDepth 100000 in
set_option maxHeartbeats 1000000 in
theorem do_div (b c : Int) (w : World) :
    Calls Tryd.prog 26 #[.int .i64 6, .int .i64 b, .int .i64 c] w fun e w' => e = .returned (.tuple #[.int .i64 (idiv b c), .int .i64 0]) ∧ Below w.heap.size w w' := by
  have hz := zero31
  have hb1 : tabA.size = 12 := rfl
  have hb2 : nil12.size = 12 := rfl
  go_enter Tryd.func26, Tryd.ntmps26
  go_wp2_with fail
  refine (functions_any _).mono ?_
  rintro e w1 ⟨rfl, h1⟩
  obtain ⟨W, hst, hrow, hbw⟩ := store31 w1
  have hc : W.cell? ⟨w1.heap.size, 3, none⟩ = some (.func (.func 57) #[] #[]) := by rw [cell_of_row W _ _ tabA 64 (0, 0) hrow]; rfl
  have hB : Below w.heap.size w W := h1.trans (hbw.mono h1.size)
  clear hrow hbw h1
  go_wp2_with (go_at_call 57; refine (div_any b c _).mono ?_; rintro e w' ⟨rfl, rfl⟩)
  go_ret2
  exact ⟨rfl, hB⟩

set_option maxRecDepth 100000 in
set_option maxHeartbeats 1000000 in
theorem do_rem (b c : Int) (w : World) :
    Calls Tryd.prog 26 #[.int .i64 7, .int .i64 b, .int .i64 c] w fun e w' => e = .returned (.tuple #[.int .i64 (irem b c), .int .i64 0]) ∧ Below w.heap.size w w' := by
  have hz := zero31
  have hb1 : tabA.size = 12 := rfl
  have hb2 : nil12.size = 12 := rfl
  go_enter Tryd.func26, Tryd.ntmps26
  go_wp2_with fail
  refine (functions_any _).mono ?_
  rintro e w1 ⟨rfl, h1⟩
  obtain ⟨W, hst, hrow, hbw⟩ := store31 w1
  have hc : W.cell? ⟨w1.heap.size, 4, none⟩ = some (.func (.func 58) #[] #[]) := by rw [cell_of_row W _ _ tabA 64 (0, 0) hrow]; rfl
  have hB : Below w.heap.size w W := h1.trans (hbw.mono h1.size)
  clear hrow hbw h1
  go_wp2_with (go_at_call 58; refine (rem_any b c _).mono ?_; rintro e w' ⟨rfl, rfl⟩)
  go_ret2
  exact ⟨rfl, hB⟩

set_option maxRecDepth 100000 in
set_option maxHeartbeats 1000000 in
theorem do_and (b c : Int) (w : World) :
    Calls Tryd.prog 26 #[.int .i64 8, .int .i64 b, .int .i64 c] w fun e w' => e = .returned (.tuple #[.int .i64 (iand b c), .int .i64 0]) ∧ Below w.heap.size w w' := by
  have hz := zero31
  have hb1 : tabA.size = 12 := rfl
  have hb2 : nil12.size = 12 := rfl
  go_enter Tryd.func26, Tryd.ntmps26
  go_wp2_with fail
  refine (functions_any _).mono ?_
  rintro e w1 ⟨rfl, h1⟩
  obtain ⟨W, hst, hrow, hbw⟩ := store31 w1
  have hc : W.cell? ⟨w1.heap.size, 5, none⟩ = some (.func (.func 59) #[] #[]) := by rw [cell_of_row W _ _ tabA 64 (0, 0) hrow]; rfl
  have hB : Below w.heap.size w W := h1.trans (hbw.mono h1.size)
  clear hrow hbw h1
  go_wp2_with (go_at_call 59; refine (and_any b c _).mono ?_; rintro e w' ⟨rfl, rfl⟩)
  go_ret2
  exact ⟨rfl, hB⟩

set_option maxRecDepth 100000 in
set_option maxHeartbeats 1000000 in
theorem do_or (b c : Int) (w : World) :
    Calls Tryd.prog 26 #[.int .i64 9, .int .i64 b, .int .i64 c] w fun e w' => e = .returned (.tuple #[.int .i64 (ior b c), .int .i64 0]) ∧ Below w.heap.size w w' := by
  have hz := zero31
  have hb1 : tabA.size = 12 := rfl
  have hb2 : nil12.size = 12 := rfl
  go_enter Tryd.func26, Tryd.ntmps26
  go_wp2_with fail
  refine (functions_any _).mono ?_
  rintro e w1 ⟨rfl, h1⟩
  obtain ⟨W, hst, hrow, hbw⟩ := store31 w1
  have hc : W.cell? ⟨w1.heap.size, 6, none⟩ = some (.func (.func 60) #[] #[]) := by rw [cell_of_row W _ _ tabA 64 (0, 0) hrow]; rfl
  have hB : Below w.heap.size w W := h1.trans (hbw.mono h1.size)
  clear hrow hbw h1
  go_wp2_with (go_at_call 60; refine (or_any b c _).mono ?_; rintro e w' ⟨rfl, rfl⟩)
  go_ret2
  exact ⟨rfl, hB⟩

set_option maxRecDepth 100000 in
set_option maxHeartbeats 1000000 in
theorem do_xor (b c : Int) (w : World) :
    Calls Tryd.prog 26 #[.int .i64 10, .int .i64 b, .int .i64 c] w fun e w' => e = .returned (.tuple #[.int .i64 (ixor b c), .int .i64 0]) ∧ Below w.heap.size w w' := by
  have hz := zero31
  have hb1 : tabA.size = 12 := rfl
  have hb2 : nil12.size = 12 := rfl
  go_enter Tryd.func26, Tryd.ntmps26
  go_wp2_with fail
  refine (functions_any _).mono ?_
  rintro e w1 ⟨rfl, h1⟩
  obtain ⟨W, hst, hrow, hbw⟩ := store31 w1
  have hc : W.cell? ⟨w1.heap.size, 7, none⟩ = some (.func (.func 61) #[] #[]) := by rw [cell_of_row W _ _ tabA 64 (0, 0) hrow]; rfl
  have hB : Below w.heap.size w W := h1.trans (hbw.mono h1.size)
  clear hrow hbw h1
  go_wp2_with (go_at_call 61; refine (xor_any b c _).mono ?_; rintro e w' ⟨rfl, rfl⟩)
  go_ret2
  exact ⟨rfl, hB⟩

set_option maxRecDepth 100000 in
set_option maxHeartbeats 1000000 in
theorem do_shl (b c : Int) (w : World) :
    Calls Tryd.prog 26 #[.int .i64 11, .int .i64 b, .int .i64 c] w fun e w' => e = .returned (.tuple #[.int .i64 (ishl b c), .int .i64 0]) ∧ Below w.heap.size w w' := by
  have hz := zero31
  have hb1 : tabA.size = 12 := rfl
  have hb2 : nil12.size = 12 := rfl
  go_enter Tryd.func26, Tryd.ntmps26
  go_wp2_with fail
  refine (functions_any _).mono ?_
  rintro e w1 ⟨rfl, h1⟩
  obtain ⟨W, hst, hrow, hbw⟩ := store31 w1
  have hc : W.cell? ⟨w1.heap.size, 8, none⟩ = some (.func (.func 62) #[] #[]) := by rw [cell_of_row W _ _ tabA 64 (0, 0) hrow]; rfl
  have hB : Below w.heap.size w W := h1.trans (hbw.mono h1.size)
  clear hrow hbw h1
  go_wp2_with (go_at_call 62; refine (shl_any b c _).mono ?_; rintro e w' ⟨rfl, rfl⟩)
  go_ret2
  exact ⟨rfl, hB⟩

set_option maxRecDepth 100000 in
set_option maxHeartbeats 1000000 in
theorem do_shr (b c : Int) (w : World) :
    Calls Tryd.prog 26 #[.int .i64 12, .int .i64 b, .int .i64 c] w fun e w' => e = .returned (.tuple #[.int .i64 (ishr b c), .int .i64 0]) ∧ Below w.heap.size w w' := by
  have hz := zero31
  have hb1 : tabA.size = 12 := rfl
  have hb2 : nil12.size = 12 := rfl
  go_enter Tryd.func26, Tryd.ntmps26
  go_wp2_with fail
  refine (functions_any _).mono ?_
  rintro e w1 ⟨rfl, h1⟩
  obtain ⟨W, hst, hrow, hbw⟩ := store31 w1
  have hc : W.cell? ⟨w1.heap.size, 9, none⟩ = some (.func (.func 63) #[] #[]) := by rw [cell_of_row W _ _ tabA 64 (0, 0) hrow]; rfl
  have hB : Below w.heap.size w W := h1.trans (hbw.mono h1.size)
  clear hrow hbw h1
  go_wp2_with (go_at_call 63; refine (shr_any b c _).mono ?_; rintro e w' ⟨rfl, rfl⟩)
  go_ret2
  exact ⟨rfl, hB⟩

set_option maxRecDepth 100000 in
set_option maxHeartbeats 1000000 in
theorem do_less (b c : Int) (w : World) :
    Calls Tryd.prog 26 #[.int .i64 13, .int .i64 b, .int .i64 c] w fun e w' => e = .returned (.tuple #[.int .i64 (iless b c), .int .i64 0]) ∧ Below w.heap.size w w' := by
  have hz := zero31
  have hb1 : tabA.size = 12 := rfl
  have hb2 : nil12.size = 12 := rfl
  go_enter Tryd.func26, Tryd.ntmps26
  go_wp2_with fail
  refine (functions_any _).mono ?_
  rintro e w1 ⟨rfl, h1⟩
  obtain ⟨W, hst, hrow, hbw⟩ := store31 w1
  have hc : W.cell? ⟨w1.heap.size, 10, none⟩ = some (.func (.func 64) #[] #[]) := by rw [cell_of_row W _ _ tabA 64 (0, 0) hrow]; rfl
  have hB : Below w.heap.size w W := h1.trans (hbw.mono h1.size)
  clear hrow hbw h1
  go_wp2_with (go_at_call 64; refine (less_any b c _).mono ?_; rintro e w' ⟨rfl, rfl⟩)
  go_ret2
  exact ⟨rfl, hB⟩

set_option maxRecDepth 100000 in
set_option maxHeartbeats 1000000 in
theorem do_equal (b c : Int) (w : World) :
    Calls Tryd.prog 26 #[.int .i64 14, .int .i64 b, .int .i64 c] w fun e w' => e = .returned (.tuple #[.int .i64 (iequal b c), .int .i64 0]) ∧ Below w.heap.size w w' := by
  have hz := zero31
  have hb1 : tabA.size = 12 := rfl
  have hb2 : nil12.size = 12 := rfl
  go_enter Tryd.func26, Tryd.ntmps26
  go_wp2_with fail
  refine (functions_any _).mono ?_
  rintro e w1 ⟨rfl, h1⟩
  obtain ⟨W, hst, hrow, hbw⟩ := store31 w1
  have hc : W.cell? ⟨w1.heap.size, 11, none⟩ = some (.func (.func 65) #[] #[]) := by rw [cell_of_row W _ _ tabA 64 (0, 0) hrow]; rfl
  have hB : Below w.heap.size w W := h1.trans (hbw.mono h1.size)
  clear hrow hbw h1
  go_wp2_with (go_at_call 65; refine (equal_any b c _).mono ?_; rintro e w' ⟨rfl, rfl⟩)
  go_ret2
  exact ⟨rfl, hB⟩

set_option maxHeartbeats 1000000 in
theorem do_below (op b c : Int) (h : op < 3) (w : World) :
    Calls Tryd.prog 26 #[.int .i64 op, .int .i64 b, .int .i64 c] w fun e w' => e = .returned (.tuple #[.int .i64 0, .int .i64 9]) ∧ Below w.heap.size w w' := by
  go_enter Tryd.func26, Tryd.ntmps26
  go_wp2
  go_ret2
  exact ⟨rfl, Below.refl _ _⟩

set_option maxHeartbeats 1000000 in
theorem do_above (op b c : Int) (h : 14 < op) (w : World) :
    Calls Tryd.prog 26 #[.int .i64 op, .int .i64 b, .int .i64 c] w fun e w' => e = .returned (.tuple #[.int .i64 0, .int .i64 9]) ∧ Below w.heap.size w w' := by
  have h1 : decide (op < 3) = false := by simp; omega
  go_enter Tryd.func26, Tryd.ntmps26
  go_wp2
  go_ret2
  exact ⟨rfl, Below.refl _ _⟩

end Go.Proofs.YtfkdaimhdjaefaaDoor.Alu
