/- The document's own quotients and shifts. -/
import Derived.Test.YtdmholagdmdlcaaM3
namespace Go.Proofs.Ytdmholagdmdlcaa
open Go.RowKit

theorem tdiv_like (b c : Int) (h : (b < 0) = (c < 0)) : b.tdiv c = ((b.natAbs / c.natAbs : Nat) : Int) := by
  by_cases hb : b < 0
  · have hc : c < 0 := by rw [← h]; exact hb
    obtain ⟨B, hB⟩ := Int.eq_ofNat_of_zero_le (show 0 ≤ -b by omega)
    obtain ⟨C, hC⟩ := Int.eq_ofNat_of_zero_le (show 0 ≤ -c by omega)
    obtain rfl : b = -(B : Int) := by omega
    obtain rfl : c = -(C : Int) := by omega
    rw [Int.neg_tdiv_neg, Int.natAbs_neg, Int.natAbs_neg]
    rfl
  · have hc : ¬ c < 0 := by rw [← h]; exact hb
    obtain ⟨B, rfl⟩ := Int.eq_ofNat_of_zero_le (show 0 ≤ b by omega)
    obtain ⟨C, rfl⟩ := Int.eq_ofNat_of_zero_le (show 0 ≤ c by omega)
    rfl
theorem tdiv_unlike (b c : Int) (h : (b < 0) ≠ (c < 0)) : b.tdiv c = -((b.natAbs / c.natAbs : Nat) : Int) := by
  by_cases hb : b < 0
  · have hc : ¬ c < 0 := fun hc => h (by simp [hb, hc])
    obtain ⟨B, hB⟩ := Int.eq_ofNat_of_zero_le (show 0 ≤ -b by omega)
    obtain ⟨C, rfl⟩ := Int.eq_ofNat_of_zero_le (show 0 ≤ c by omega)
    obtain rfl : b = -(B : Int) := by omega
    rw [Int.neg_tdiv, Int.natAbs_neg]
    rfl
  · have hc : c < 0 := by
      rcases Decidable.em (c < 0) with h1 | h1
      · exact h1
      · exact absurd (by simp [hb, h1]) h
    obtain ⟨B, rfl⟩ := Int.eq_ofNat_of_zero_le (show 0 ≤ b by omega)
    obtain ⟨C, hC⟩ := Int.eq_ofNat_of_zero_le (show 0 ≤ -c by omega)
    obtain rfl : c = -(C : Int) := by omega
    rw [Int.tdiv_neg, Int.natAbs_neg]
    rfl

theorem up_step (b : Int) (k : Nat) : wrap64 (wrap64 (b * pw k) + wrap64 (b * pw k)) = wrap64 (b * pw (k + 1)) := by
  have e : b * pw (k + 1) = b * pw k + b * pw k := by
    rw [pw_add, show pw 1 = 2 from by decide, ← Int.mul_assoc]; omega
  rw [e]
  generalize b * pw k = z
  unfold wrap64
  omega
theorem up_end (b : Int) (C : Nat) : wrap64 (b * pw (min C 64)) = ishl b (C : Int) := by
  rw [ishl_nat]
  by_cases h : C ≤ 64
  · rw [Nat.min_eq_left h]
  · rw [Nat.min_eq_right (by omega), wrap64_big _ _ (Nat.le_refl _), wrap64_big _ _ (by omega)]
theorem up_zero (b : Int) (hb : Fits b) : wrap64 (b * pw 0) = b := by
  rw [show pw 0 = 1 from by decide, Int.mul_one, wrap64_id hb]
theorem down_step (b : Int) (k : Nat) : b / pw k / 2 = b / pw (k + 1) := by
  rw [pw_add, show pw 1 = 2 from by decide, Int.ediv_ediv_of_nonneg (Int.le_of_lt (pw_pos k))]
theorem down_end (b : Int) (hb : Fits b) (C : Nat) : b / pw (min C 64) = ishr b (C : Int) := by
  rw [ishr_nat b hb]
  by_cases h : C ≤ 64
  · rw [Nat.min_eq_left h]
  · rw [Nat.min_eq_right (by omega), div_big _ hb _ (by omega), div_big _ hb _ (by omega)]
theorem down_zero (b : Int) : b / pw 0 = b := by rw [show pw 0 = 1 from by decide, Int.ediv_one]

theorem tdiv2_nonneg (x : Int) (h : 0 ≤ x) : x.tdiv 2 = x / 2 := Int.tdiv_eq_ediv_of_nonneg h
theorem tdiv2_even (x : Int) (h : x % 2 = 0) : x.tdiv 2 = x / 2 := Int.tdiv_eq_ediv_of_dvd (Int.dvd_of_emod_eq_zero h)
theorem tdiv2_odd (x : Int) (h : x % 2 = 1) : (x - 1).tdiv 2 = x / 2 := by
  rw [tdiv2_even (x - 1) (by omega)]; omega
theorem tmod2_odd (x : Int) (hx : x < 0) (h : x % 2 = 1) : x.tmod 2 = -1 := by
  have h1 := Int.mul_tdiv_add_tmod x 2
  have h2 : (x.tmod 2).natAbs = x.natAbs % 2 := Int.natAbs_tmod x 2
  have h3 := Int.tmod_nonneg (a := -x) 2 (by omega)
  rw [Int.neg_tmod] at h3
  omega
theorem tmod2_even (x : Int) (h : x % 2 = 0) : x.tmod 2 = 0 := by
  have h2 : (x.tmod 2).natAbs = x.natAbs % 2 := Int.natAbs_tmod x 2
  omega
end Go.Proofs.Ytdmholagdmdlcaa
