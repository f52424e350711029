/- What an instruction makes of two numbers: the program's answer. -/
import Derived.Test.YtfkdaimhdjaefaaDoorAW3
import Derived.Test.YtfkdaimhdjaefaaDoorGAm
import Derived.Test.YtfkdaimhdjaefaaDoorGFa
import Derived.Test.YtfkdaimhdjaefaaDoorU1
namespace Go.Proofs.YtfkdaimhdjaefaaDoor
open Go.RowKit

/-- What an instruction that reckons makes of two numbers. -/
def reckL (op b c : Int) : Int :=
  if op = 3 then Alu.iadd b c else if op = 4 then Alu.isub b c else if op = 5 then Alu.imul b c else if op = 6 then Alu.idiv b c else
  if op = 7 then Alu.irem b c else if op = 8 then Alu.iand b c else if op = 9 then Alu.ior b c else if op = 10 then Alu.ixor b c else
  if op = 11 then Alu.ishl b c else if op = 12 then Alu.ishr b c else if op = 13 then Alu.iless b c else if op = 14 then Alu.iequal b c else
  if op = 15 then wrap64 (Flt.fadd (Flt.wd b) (Flt.wd c)) else if op = 16 then wrap64 (Flt.fsub (Flt.wd b) (Flt.wd c)) else
  if op = 17 then wrap64 (Flt.fmul (Flt.wd b) (Flt.wd c)) else if op = 18 then wrap64 (Flt.fdiv (Flt.wd b) (Flt.wd c)) else
  if op = 19 then (if Flt.fless (Flt.wd b) (Flt.wd c) then 1 else 0) else if op = 20 then wrap64 (Flt.ofInt b) else Flt.fwhole (Flt.wd b)

theorem reck_3 (b c : Int) : reckL 3 b c = Alu.iadd b c := by
  unfold reckL
  rw [if_pos rfl]
theorem reck_4 (b c : Int) : reckL 4 b c = Alu.isub b c := by
  unfold reckL
  rw [if_neg (by decide)]
  rw [if_pos rfl]
theorem reck_5 (b c : Int) : reckL 5 b c = Alu.imul b c := by
  unfold reckL
  rw [if_neg (by decide)]
  rw [if_neg (by decide)]
  rw [if_pos rfl]
theorem reck_6 (b c : Int) : reckL 6 b c = Alu.idiv b c := by
  unfold reckL
  rw [if_neg (by decide)]
  rw [if_neg (by decide)]
  rw [if_neg (by decide)]
  rw [if_pos rfl]
theorem reck_7 (b c : Int) : reckL 7 b c = Alu.irem b c := by
  unfold reckL
  rw [if_neg (by decide)]
  rw [if_neg (by decide)]
  rw [if_neg (by decide)]
  rw [if_neg (by decide)]
  rw [if_pos rfl]
theorem reck_8 (b c : Int) : reckL 8 b c = Alu.iand b c := by
  unfold reckL
  rw [if_neg (by decide)]
  rw [if_neg (by decide)]
  rw [if_neg (by decide)]
  rw [if_neg (by decide)]
  rw [if_neg (by decide)]
  rw [if_pos rfl]
theorem reck_9 (b c : Int) : reckL 9 b c = Alu.ior b c := by
  unfold reckL
  rw [if_neg (by decide)]
  rw [if_neg (by decide)]
  rw [if_neg (by decide)]
  rw [if_neg (by decide)]
  rw [if_neg (by decide)]
  rw [if_neg (by decide)]
  rw [if_pos rfl]
theorem reck_10 (b c : Int) : reckL 10 b c = Alu.ixor b c := by
  unfold reckL
  rw [if_neg (by decide)]
  rw [if_neg (by decide)]
  rw [if_neg (by decide)]
  rw [if_neg (by decide)]
  rw [if_neg (by decide)]
  rw [if_neg (by decide)]
  rw [if_neg (by decide)]
  rw [if_pos rfl]
theorem reck_11 (b c : Int) : reckL 11 b c = Alu.ishl b c := by
  unfold reckL
  rw [if_neg (by decide)]
  rw [if_neg (by decide)]
  rw [if_neg (by decide)]
  rw [if_neg (by decide)]
  rw [if_neg (by decide)]
  rw [if_neg (by decide)]
  rw [if_neg (by decide)]
  rw [if_neg (by decide)]
  rw [if_pos rfl]
theorem reck_12 (b c : Int) : reckL 12 b c = Alu.ishr b c := by
  unfold reckL
  rw [if_neg (by decide)]
  rw [if_neg (by decide)]
  rw [if_neg (by decide)]
  rw [if_neg (by decide)]
  rw [if_neg (by decide)]
  rw [if_neg (by decide)]
  rw [if_neg (by decide)]
  rw [if_neg (by decide)]
  rw [if_neg (by decide)]
  rw [if_pos rfl]
theorem reck_13 (b c : Int) : reckL 13 b c = Alu.iless b c := by
  unfold reckL
  rw [if_neg (by decide)]
  rw [if_neg (by decide)]
  rw [if_neg (by decide)]
  rw [if_neg (by decide)]
  rw [if_neg (by decide)]
  rw [if_neg (by decide)]
  rw [if_neg (by decide)]
  rw [if_neg (by decide)]
  rw [if_neg (by decide)]
  rw [if_neg (by decide)]
  rw [if_pos rfl]
theorem reck_14 (b c : Int) : reckL 14 b c = Alu.iequal b c := by
  unfold reckL
  rw [if_neg (by decide)]
  rw [if_neg (by decide)]
  rw [if_neg (by decide)]
  rw [if_neg (by decide)]
  rw [if_neg (by decide)]
  rw [if_neg (by decide)]
  rw [if_neg (by decide)]
  rw [if_neg (by decide)]
  rw [if_neg (by decide)]
  rw [if_neg (by decide)]
  rw [if_neg (by decide)]
  rw [if_pos rfl]
theorem reck_15 (b c : Int) : reckL 15 b c = wrap64 (Flt.fadd (Flt.wd b) (Flt.wd c)) := by
  unfold reckL
  rw [if_neg (by decide)]
  rw [if_neg (by decide)]
  rw [if_neg (by decide)]
  rw [if_neg (by decide)]
  rw [if_neg (by decide)]
  rw [if_neg (by decide)]
  rw [if_neg (by decide)]
  rw [if_neg (by decide)]
  rw [if_neg (by decide)]
  rw [if_neg (by decide)]
  rw [if_neg (by decide)]
  rw [if_neg (by decide)]
  rw [if_pos rfl]
theorem reck_16 (b c : Int) : reckL 16 b c = wrap64 (Flt.fsub (Flt.wd b) (Flt.wd c)) := by
  unfold reckL
  rw [if_neg (by decide)]
  rw [if_neg (by decide)]
  rw [if_neg (by decide)]
  rw [if_neg (by decide)]
  rw [if_neg (by decide)]
  rw [if_neg (by decide)]
  rw [if_neg (by decide)]
  rw [if_neg (by decide)]
  rw [if_neg (by decide)]
  rw [if_neg (by decide)]
  rw [if_neg (by decide)]
  rw [if_neg (by decide)]
  rw [if_neg (by decide)]
  rw [if_pos rfl]
theorem reck_17 (b c : Int) : reckL 17 b c = wrap64 (Flt.fmul (Flt.wd b) (Flt.wd c)) := by
  unfold reckL
  rw [if_neg (by decide)]
  rw [if_neg (by decide)]
  rw [if_neg (by decide)]
  rw [if_neg (by decide)]
  rw [if_neg (by decide)]
  rw [if_neg (by decide)]
  rw [if_neg (by decide)]
  rw [if_neg (by decide)]
  rw [if_neg (by decide)]
  rw [if_neg (by decide)]
  rw [if_neg (by decide)]
  rw [if_neg (by decide)]
  rw [if_neg (by decide)]
  rw [if_neg (by decide)]
  rw [if_pos rfl]
theorem reck_18 (b c : Int) : reckL 18 b c = wrap64 (Flt.fdiv (Flt.wd b) (Flt.wd c)) := by
  unfold reckL
  rw [if_neg (by decide)]
  rw [if_neg (by decide)]
  rw [if_neg (by decide)]
  rw [if_neg (by decide)]
  rw [if_neg (by decide)]
  rw [if_neg (by decide)]
  rw [if_neg (by decide)]
  rw [if_neg (by decide)]
  rw [if_neg (by decide)]
  rw [if_neg (by decide)]
  rw [if_neg (by decide)]
  rw [if_neg (by decide)]
  rw [if_neg (by decide)]
  rw [if_neg (by decide)]
  rw [if_neg (by decide)]
  rw [if_pos rfl]
theorem reck_19 (b c : Int) : reckL 19 b c = if Flt.fless (Flt.wd b) (Flt.wd c) then 1 else 0 := by
  unfold reckL
  rw [if_neg (by decide)]
  rw [if_neg (by decide)]
  rw [if_neg (by decide)]
  rw [if_neg (by decide)]
  rw [if_neg (by decide)]
  rw [if_neg (by decide)]
  rw [if_neg (by decide)]
  rw [if_neg (by decide)]
  rw [if_neg (by decide)]
  rw [if_neg (by decide)]
  rw [if_neg (by decide)]
  rw [if_neg (by decide)]
  rw [if_neg (by decide)]
  rw [if_neg (by decide)]
  rw [if_neg (by decide)]
  rw [if_neg (by decide)]
  rw [if_pos rfl]
theorem reck_20 (b c : Int) : reckL 20 b c = wrap64 (Flt.ofInt b) := by
  unfold reckL
  rw [if_neg (by decide)]
  rw [if_neg (by decide)]
  rw [if_neg (by decide)]
  rw [if_neg (by decide)]
  rw [if_neg (by decide)]
  rw [if_neg (by decide)]
  rw [if_neg (by decide)]
  rw [if_neg (by decide)]
  rw [if_neg (by decide)]
  rw [if_neg (by decide)]
  rw [if_neg (by decide)]
  rw [if_neg (by decide)]
  rw [if_neg (by decide)]
  rw [if_neg (by decide)]
  rw [if_neg (by decide)]
  rw [if_neg (by decide)]
  rw [if_neg (by decide)]
  rw [if_pos rfl]
theorem reck_21 (b c : Int) : reckL 21 b c = Flt.fwhole (Flt.wd b) := by
  unfold reckL
  rw [if_neg (by decide)]
  rw [if_neg (by decide)]
  rw [if_neg (by decide)]
  rw [if_neg (by decide)]
  rw [if_neg (by decide)]
  rw [if_neg (by decide)]
  rw [if_neg (by decide)]
  rw [if_neg (by decide)]
  rw [if_neg (by decide)]
  rw [if_neg (by decide)]
  rw [if_neg (by decide)]
  rw [if_neg (by decide)]
  rw [if_neg (by decide)]
  rw [if_neg (by decide)]
  rw [if_neg (by decide)]
  rw [if_neg (by decide)]
  rw [if_neg (by decide)]
  rw [if_neg (by decide)]

theorem alu_reck (op b c : Int) (h1 : 3 ≤ op) (h2 : op ≤ 14) (w : World) :
    Calls Tryd.prog 26 #[.int .i64 op, .int .i64 b, .int .i64 c] w fun e w' => e = .returned (.tuple #[.int .i64 (reckL op b c), .int .i64 0]) ∧ Below w.heap.size w w' := by
  have h : op = 3 ∨ op = 4 ∨ op = 5 ∨ op = 6 ∨ op = 7 ∨ op = 8 ∨ op = 9 ∨ op = 10 ∨ op = 11 ∨ op = 12 ∨ op = 13 ∨ op = 14 := by omega
  rcases h with rfl | rfl | rfl | rfl | rfl | rfl | rfl | rfl | rfl | rfl | rfl | rfl
  · rw [reck_3]; exact Alu.do_add b c w
  · rw [reck_4]; exact Alu.do_sub b c w
  · rw [reck_5]; exact Alu.do_mul b c w
  · rw [reck_6]; exact Alu.do_div b c w
  · rw [reck_7]; exact Alu.do_rem b c w
  · rw [reck_8]; exact Alu.do_and b c w
  · rw [reck_9]; exact Alu.do_or b c w
  · rw [reck_10]; exact Alu.do_xor b c w
  · rw [reck_11]; exact Alu.do_shl b c w
  · rw [reck_12]; exact Alu.do_shr b c w
  · rw [reck_13]; exact Alu.do_less b c w
  · rw [reck_14]; exact Alu.do_equal b c w

theorem flt_reck (op b c : Int) (h1 : 15 ≤ op) (h2 : op ≤ 21) (w : World) :
    Calls Tryd.prog 27 #[.int .i64 op, .int .i64 b, .int .i64 c] w fun e w' => e = .returned (.tuple #[.int .i64 (reckL op b c), .int .i64 0]) ∧ Below w.heap.size w w' := by
  have h : op = 15 ∨ op = 16 ∨ op = 17 ∨ op = 18 ∨ op = 19 ∨ op = 20 ∨ op = 21 := by omega
  rcases h with rfl | rfl | rfl | rfl | rfl | rfl | rfl
  · rw [reck_15]; exact Flt.do_fadd b c w
  · rw [reck_16]; exact Flt.do_fsub b c w
  · rw [reck_17]; exact Flt.do_fmul b c w
  · rw [reck_18]; exact Flt.do_fdiv b c w
  · rw [reck_19]; exact Flt.do_fless b c w
  · rw [reck_20]; exact Flt.do_tofloat b c w
  · rw [reck_21]; exact Flt.do_toint b c w

set_option maxRecDepth 100000 in
set_option maxHeartbeats 1000000 in
theorem reckoned_any (op b c : Int) (h1 : 3 ≤ op) (h2 : op ≤ 21) (w : World) :
    Calls Tryd.prog 20 #[.int .i64 op, .int .i64 b, .int .i64 c] w fun e w' => e = .returned (.int .i64 (reckL op b c)) ∧ Below w.heap.size w w' := by
  by_cases h3 : op ≤ 14
  · have h := alu_reck op b c h1 h3 w
    generalize reckL op b c = V at *
    clear h1 h2 h3
    go_enter Tryd.func20, Tryd.ntmps20
    go_wp2_with (go_at_call 26; refine h.mono ?_; rintro e w1 ⟨rfl, b1⟩)
    go_ret
    exact ⟨rfl, b1⟩
  · have h := Alu.do_above op b c (by omega) w
    have hf := flt_reck op b c (by omega) h2
    generalize reckL op b c = V at *
    clear h1 h2 h3
    go_enter Tryd.func20, Tryd.ntmps20
    go_wp2_with (first | (go_at_call 26; refine h.mono ?_; rintro e w1 ⟨rfl, b1⟩) | (go_at_call 27; refine (hf _).mono ?_; rintro e w2 ⟨rfl, b2⟩))
    go_ret
    exact ⟨rfl, b1.trans (b2.mono b1.size)⟩

theorem fwhole_fits (x : Nat) : Alu.Fits (Flt.fwhole x) := by
  unfold Flt.fwhole
  split
  · exact ⟨by omega, by omega⟩
  · next hN =>
    split
    · exact ⟨by omega, by omega⟩
    · next c1 =>
      split
      · exact ⟨by omega, by omega⟩
      · next c2 =>
        have h := (Flt.part_fits x (by omega) c1 c2).2
        exact ⟨by have := h.1; omega, by have := h.2; omega⟩
theorem ishr_fits (b c : Int) (hb : Alu.Fits b) : Alu.Fits (Alu.ishr b c) := by
  by_cases h : c < 0
  · simp only [Alu.ishr, if_pos h]; exact hb
  · obtain ⟨x, rfl⟩ : ∃ x : Nat, c = x := ⟨c.toNat, by omega⟩
    rw [Alu.ishr_nat b hb x]
    exact Alu.div_fits b hb x
theorem ishl_fits (b c : Int) (hb : Alu.Fits b) : Alu.Fits (Alu.ishl b c) := by
  unfold Alu.ishl
  split
  · exact hb
  · exact Alu.wrap64_fits _
theorem bool_fits {p : Prop} [Decidable p] : Alu.Fits (if p then 1 else 0) := by split <;> exact ⟨by omega, by omega⟩
theorem one_fits : Alu.Fits 1 := ⟨by omega, by omega⟩
theorem zero_fits : Alu.Fits 0 := ⟨by omega, by omega⟩
theorem ite_fits {p : Prop} [Decidable p] {a b : Int} (h1 : Alu.Fits a) (h2 : Alu.Fits b) : Alu.Fits (if p then a else b) := by split <;> assumption
theorem reck_fits (op b c : Int) (hb : Alu.Fits b) : Alu.Fits (reckL op b c) := by
  unfold reckL
  repeat' (with_reducible apply ite_fits)
  all_goals first | exact Alu.wrap64_fits _ | exact fwhole_fits _ | exact ishr_fits b c hb | exact ishl_fits b c hb | exact bool_fits | exact one_fits | exact zero_fits | (rw [Alu.iand_bv]; exact Alu.toInt_fits _) | (rw [Alu.ior_bv]; exact Alu.toInt_fits _) | (rw [Alu.ixor_bv]; exact Alu.toInt_fits _)

/-- Registers of 64 bits. -/
def GoodC (c : Core) : Prop := ∀ j, j < 8 → Alu.Fits (c.r j)
end Go.Proofs.YtfkdaimhdjaefaaDoor
