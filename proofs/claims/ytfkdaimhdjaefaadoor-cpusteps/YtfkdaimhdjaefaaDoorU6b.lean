/- What an instruction makes of two numbers: the document's answer. -/
import Derived.Test.YtfkdaimhdjaefaaDoorFW32
import Derived.Test.YtfkdaimhdjaefaaDoorGAb
import Derived.Test.YtfkdaimhdjaefaaDoorU6
namespace Go.Proofs.YtfkdaimhdjaefaaDoor
open Go.RowKit

theorem ralu_reck (op b c : Int) (h1 : 3 ≤ op) (h2 : op ≤ 14) (hb : Alu.Fits b) (hc : Alu.Fits c) (w : World) :
    Calls Tryd.prog 30 #[.int .i64 op, .int .i64 b, .int .i64 c] w fun e w' => e = .returned (.tuple #[.int .i64 (reckL op b c), .int .i64 0]) ∧ Below w.heap.size w w' := by
  have h : op = 3 ∨ op = 4 ∨ op = 5 ∨ op = 6 ∨ op = 7 ∨ op = 8 ∨ op = 9 ∨ op = 10 ∨ op = 11 ∨ op = 12 ∨ op = 13 ∨ op = 14 := by omega
  rcases h with rfl | rfl | rfl | rfl | rfl | rfl | rfl | rfl | rfl | rfl | rfl | rfl
  · rw [reck_3]; exact Alu.r_add b c w
  · rw [reck_4]; exact Alu.r_sub b c w
  · rw [reck_5]; exact Alu.r_mul b c w
  · rw [reck_6]; exact Alu.r_div b c hb hc w
  · rw [reck_7]; exact Alu.r_rem b c hb hc w
  · rw [reck_8]; exact Alu.r_and b c w
  · rw [reck_9]; exact Alu.r_or b c w
  · rw [reck_10]; exact Alu.r_xor b c w
  · rw [reck_11]; exact Alu.r_shl b c hb hc w
  · rw [reck_12]; exact Alu.r_shr b c hb hc w
  · rw [reck_13]; exact Alu.r_less b c w
  · rw [reck_14]; exact Alu.r_equal b c w

theorem rflt_reck (op b c : Int) (h1 : 15 ≤ op) (h2 : op ≤ 21) (hb : Alu.Fits b) (w : World) :
    Calls Tryd.prog 29 #[.int .i64 op, .int .i64 b, .int .i64 c] w fun e w' => e = .returned (.tuple #[.int .i64 (reckL op b c), .int .i64 0]) ∧ Below w.heap.size w w' := by
  have h : op = 15 ∨ op = 16 ∨ op = 17 ∨ op = 18 ∨ op = 19 ∨ op = 20 ∨ op = 21 := by omega
  rcases h with rfl | rfl | rfl | rfl | rfl | rfl | rfl
  · rw [reck_15]; exact Flt.ref_fadd b c w
  · rw [reck_16]; exact Flt.ref_fsub b c w
  · rw [reck_17]; exact Flt.ref_fmul b c w
  · rw [reck_18]; exact Flt.ref_fdiv b c w
  · rw [reck_19]; exact Flt.ref_fless b c w
  · rw [reck_20]; exact Flt.ref_tofloat b c hb.1 hb.2 w
  · rw [reck_21]; exact Flt.ref_toint b c w

/-- Of a conversion the second number does not matter. -/
theorem reck_conv (op b c : Int) (h1 : op = 20 ∨ op = 21) : reckL op b 0 = reckL op b c := by
  rcases h1 with rfl | rfl
  · rw [reck_20, reck_20]
  · rw [reck_21, reck_21]

end Go.Proofs.YtfkdaimhdjaefaaDoor
