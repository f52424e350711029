/- Shifts. -/
import Derived.Test.YtfkdaimhdjaefaaDoorAM2
namespace Go.Proofs.YtfkdaimhdjaefaaDoor.Alu
open Go.RowKit

/-- 2 to the n. -/
def pw (n : Nat) : Int := 2 ^ n
theorem pw_pos (n : Nat) : 0 < pw n := Int.pow_pos (by decide)
theorem pw_add (a b : Nat) : pw (a + b) = pw a * pw b := Int.pow_add ..
theorem pw_64 : pw 64 = 18446744073709551616 := by decide
theorem pw_63 : pw 63 = 9223372036854775808 := by decide
theorem pw_lt {a b : Nat} (h : a < b) : pw a < pw b := Int.pow_lt_pow_of_lt (by decide) h

theorem wrap64_add_mul (n k : Int) : wrap64 (n + k * 18446744073709551616) = wrap64 n := by
  unfold wrap64; omega
theorem wrap64_decomp (n : Int) : ∃ k, n = wrap64 n + k * 18446744073709551616 := by
  refine ⟨(n + 9223372036854775808) / 18446744073709551616, ?_⟩
  unfold wrap64; omega
theorem wrap64_mul_right (b z : Int) : wrap64 (b * wrap64 z) = wrap64 (b * z) := by
  obtain ⟨k, hk⟩ := wrap64_decomp z
  have e : b * z = b * wrap64 z + b * k * 18446744073709551616 := by
    conv => lhs; rw [hk]
    rw [Int.mul_add, Int.mul_assoc]
  rw [e, wrap64_add_mul]
theorem wrap64_mul_left (b z : Int) : wrap64 (wrap64 z * b) = wrap64 (z * b) := by
  rw [Int.mul_comm, wrap64_mul_right, Int.mul_comm]
theorem wrap64_zero : wrap64 0 = 0 := by unfold wrap64; omega
theorem wrap64_big (b : Int) (n : Nat) (h : 64 ≤ n) : wrap64 (b * pw n) = 0 := by
  obtain ⟨m, rfl⟩ := Nat.exists_eq_add_of_le h
  have e : b * pw (64 + m) = 0 + b * pw m * 18446744073709551616 := by
    rw [pw_add, pw_64, Int.mul_comm 18446744073709551616, Int.zero_add, Int.mul_assoc]
  rw [e, wrap64_add_mul, wrap64_zero]

theorem ishl_nat (b : Int) (x : Nat) : ishl b (x : Int) = wrap64 (b * pw x) := by
  have h0 : ¬ ((x : Int) < 0) := by omega
  unfold ishl
  rw [if_neg h0, Int.toNat_natCast]
  by_cases h : x ≤ 64
  · rw [Nat.min_eq_left h]; rfl
  · rw [Nat.min_eq_right (by omega)]
    rw [wrap64_big b x (by omega)]
    exact wrap64_big b 64 (Nat.le_refl _)

theorem div_big (b : Int) (hb : Fits b) (n : Nat) (h : 63 ≤ n) : b / pw n = if b < 0 then -1 else 0 := by
  have h1 : 9223372036854775808 ≤ pw n := by
    rw [← pw_63]
    rcases Nat.eq_or_lt_of_le h with e | e
    · rw [e]; exact Int.le_refl _
    · exact Int.le_of_lt (pw_lt e)
  unfold Fits at hb
  generalize pw n = p at *
  have hp : 0 < p := by omega
  split
  · refine Int.le_antisymm ?_ ?_
    · have := Int.ediv_lt_of_lt_mul (a := b) (b := 0) hp (by omega)
      omega
    · exact Int.le_ediv_of_mul_le hp (by omega)
  · exact Int.ediv_eq_zero_of_lt (by omega) (by omega)

theorem ishr_nat (b : Int) (hb : Fits b) (x : Nat) : ishr b (x : Int) = b / pw x := by
  have h0 : ¬ ((x : Int) < 0) := by omega
  unfold ishr
  rw [if_neg h0, Int.toNat_natCast]
  by_cases h : x ≤ 64
  · rw [Nat.min_eq_left h]; rfl
  · rw [Nat.min_eq_right (by omega), div_big b hb x (by omega)]
    exact div_big b hb 64 (by omega)

theorem div_fits (b : Int) (hb : Fits b) (x : Nat) : Fits (b / pw x) := by
  have hp := pw_pos x
  unfold Fits at *
  generalize pw x = p at *
  refine ⟨?_, ?_⟩
  · refine Int.le_ediv_of_mul_le hp ?_
    have : -9223372036854775808 * p ≤ -9223372036854775808 * 1 := Int.mul_le_mul_of_nonpos_left (by omega) (by omega)
    omega
  · have h1 : b / p < 9223372036854775808 := by
      refine Int.ediv_lt_of_lt_mul hp ?_
      have : 9223372036854775808 * 1 ≤ 9223372036854775808 * p := Int.mul_le_mul_of_nonneg_left (by omega) (by omega)
      omega
    omega

theorem shl_is_mul (b : Int) (x : Nat) : imul b (ishl 1 (x : Int)) = ishl b (x : Int) := by
  rw [ishl_nat, ishl_nat]
  unfold imul
  rw [wrap64_mul_right, Int.one_mul]
theorem shl_shl (b : Int) (x y : Nat) : ishl (ishl b (x : Int)) (y : Int) = ishl b ((x + y : Nat) : Int) := by
  rw [ishl_nat, ishl_nat, ishl_nat, wrap64_mul_left, pw_add, Int.mul_assoc]
theorem shr_shr (b : Int) (hb : Fits b) (x y : Nat) : ishr (ishr b (x : Int)) (y : Int) = ishr b ((x + y : Nat) : Int) := by
  rw [ishr_nat b hb, ishr_nat _ (div_fits b hb x), ishr_nat b hb, pw_add, Int.ediv_ediv_of_nonneg (Int.le_of_lt (pw_pos x))]
theorem shl_neg (b c : Int) (h : c < 0) : ishl b c = b := by unfold ishl; rw [if_pos h]
theorem shr_neg (b c : Int) (h : c < 0) : ishr b c = b := by unfold ishr; rw [if_pos h]

theorem least_div (x : Nat) (hx : x < 63) : (-9223372036854775808 : Int) / pw x = -pw (63 - x) ∧ pw (63 - x) * pw x = 9223372036854775808 := by
  have e : pw (63 - x) * pw x = 9223372036854775808 := by rw [← pw_add, show 63 - x + x = 63 by omega, pw_63]
  refine ⟨?_, e⟩
  have h2 : (-9223372036854775808 : Int) = -pw (63 - x) * pw x := by rw [Int.neg_mul, e]
  rw [h2]
  exact Int.mul_ediv_cancel _ (by have := pw_pos x; omega)

theorem back_kept (b : Int) (x : Nat) (hx : x < 63) (h1 : b ≤ 9223372036854775807 / pw x) (h2 : -9223372036854775808 / pw x ≤ b) :
    ishr (ishl b (x : Int)) (x : Int) = b := by
  have hp := pw_pos x
  obtain ⟨e1, e2⟩ := least_div x hx
  have h3 : b * pw x ≤ 9223372036854775807 := Int.le_trans (Int.mul_le_mul_of_nonneg_right h1 (Int.le_of_lt hp)) (Int.ediv_mul_le _ (by omega))
  have h4 : -9223372036854775808 ≤ b * pw x := by
    rw [e1] at h2
    have := Int.mul_le_mul_of_nonneg_right h2 (Int.le_of_lt hp)
    rw [Int.neg_mul, e2] at this
    exact this
  have hf : Fits (b * pw x) := ⟨h3 |> fun _ => h4, h3⟩
  rw [ishl_nat, wrap64_id hf, ishr_nat _ hf]
  exact Int.mul_ediv_cancel _ (by omega)

theorem down_sign (b : Int) (hb : Fits b) (x : Nat) : ishr b (x : Int) < 0 ↔ b < 0 := by
  rw [ishr_nat b hb]
  have hp := pw_pos x
  constructor
  · intro h
    rcases Int.lt_or_le b 0 with h1 | h1
    · exact h1
    · have := Int.ediv_nonneg h1 (Int.le_of_lt hp)
      omega
  · intro h
    exact Int.ediv_neg_of_neg_of_pos h hp

theorem one_at (x : Nat) (hx : x < 63) : ishl 1 (x : Int) = pw x := by
  rw [ishl_nat, Int.one_mul]
  have := pw_lt hx
  rw [pw_63] at this
  have hp := pw_pos x
  exact wrap64_id ⟨by omega, by omega⟩

theorem down_part (b : Int) (hb : Fits b) (x : Nat) (hx : x < 63) :
    imul (ishr b (x : Int)) (ishl 1 (x : Int)) ≤ b ∧ b - imul (ishr b (x : Int)) (ishl 1 (x : Int)) < ishl 1 (x : Int) ∧ Fits (imul (ishr b (x : Int)) (ishl 1 (x : Int))) := by
  have hp := pw_pos x
  have hl := pw_lt hx
  rw [pw_63] at hl
  obtain ⟨e1, e2⟩ := least_div x hx
  rw [one_at x hx, ishr_nat b hb]
  unfold imul
  have h1 : b / pw x * pw x ≤ b := Int.ediv_mul_le _ (by omega)
  have h2 : b - b / pw x * pw x < pw x := by
    have := Int.emod_lt_of_pos b hp
    have h3 := Int.mul_ediv_add_emod b (pw x)
    rw [Int.mul_comm] at h3
    omega
  have h4 : -9223372036854775808 ≤ b / pw x * pw x := by
    have h5 : -9223372036854775808 / pw x ≤ b / pw x := Int.ediv_le_ediv hp hb.1
    rw [e1] at h5
    have := Int.mul_le_mul_of_nonneg_right h5 (Int.le_of_lt hp)
    rw [Int.neg_mul, e2] at this
    exact this
  have hb2 := hb.2
  have hf : Fits (b / pw x * pw x) := ⟨h4, by omega⟩
  rw [wrap64_id hf]
  exact ⟨h1, h2, hf⟩
end Go.Proofs.YtfkdaimhdjaefaaDoor.Alu
