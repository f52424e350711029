/- The law's own small functions; words and numbers of 64 bits. -/
import Derived.Test.YtfkdaimhdjaefaaDoorGFa
import Derived.Laws.BitsAllLaws
namespace Go.Proofs.YtfkdaimhdjaefaaDoor.Flt
open Go.RowKit

theorem wd_lt (b : Int) : wd b < 2 ^ 64 := by
  unfold wd
  rw [IntKind.wrap_u64]
  omega
theorem wd_wrap (x : Nat) (h : x < 2 ^ 64) : wd (wrap64 (x : Int)) = x := by
  unfold wd wrap64
  rw [IntKind.wrap_u64]
  omega
theorem wrap_wd (b : Int) (h1 : -9223372036854775808 ≤ b) (h2 : b ≤ 9223372036854775807) : wrap64 (wd b : Int) = b := by
  unfold wd wrap64
  rw [IntKind.wrap_u64]
  omega
theorem wrap_inj (x y : Nat) (hx : x < 2 ^ 64) (hy : y < 2 ^ 64) (h : wrap64 (x : Int) = wrap64 (y : Int)) : x = y := by
  rw [← wd_wrap x hx, ← wd_wrap y hy, h]

theorem wrap_u64_wd (b : Int) : IntKind.u64.wrap b = (wd b : Int) := by
  unfold wd
  rw [IntKind.wrap_u64]
  omega

theorem andNot_u64 (b : Int) : bits .andNot .u64 (IntKind.u64.wrap b) 9223372036854775808 = (rungOf (wd b) : Int) := by
  rw [wrap_u64_wd]
  have h := u64_andNot_nat (wd b) 9223372036854775808 (by have := wd_lt b; omega) (by omega)
  rw [show ((9223372036854775808 : Nat) : Int) = 9223372036854775808 from rfl] at h
  rw [h]
  have e : (18446744073709551615 - 9223372036854775808 : Nat) = 2 ^ 63 - 1 := by decide
  rw [e, Nat.and_two_pow_sub_one_eq_mod]
  rfl

theorem xor_low (y : Nat) (h : y < 2 ^ 63) : y ^^^ 2 ^ 63 = y + 2 ^ 63 := by
  apply Nat.eq_of_testBit_eq
  intro i
  rw [Nat.testBit_xor, Nat.testBit_two_pow, Nat.add_comm y]
  by_cases hi : i = 63
  · subst hi
    rw [Nat.testBit_two_pow_add_eq]
    simp
  · by_cases hl : i < 63
    · rw [Nat.testBit_two_pow_add_gt hl]
      have : ¬ 63 = i := by omega
      simp [this]
    · have h1 : y.testBit i = false := Nat.testBit_lt_two_pow (Nat.lt_of_lt_of_le h (Nat.pow_le_pow_right (by decide) (by omega)))
      have h2 : (2 ^ 63 + y).testBit i = false := Nat.testBit_lt_two_pow (Nat.lt_of_lt_of_le (show 2 ^ 63 + y < 2 ^ 64 by omega) (Nat.pow_le_pow_right (by decide) (by omega)))
      have h3 : ¬ 63 = i := by omega
      rw [h1, h2]; simp [h3]

theorem xor_flip (x : Nat) (h : x < 2 ^ 64) : x ^^^ 2 ^ 63 = flip x := by
  unfold flip
  by_cases hx : x < 2 ^ 63
  · rw [if_pos hx, xor_low x hx]
  · rw [if_neg hx]
    obtain ⟨y, rfl⟩ : ∃ y, x = y + 2 ^ 63 := ⟨x - 2 ^ 63, by omega⟩
    rw [← xor_low y (by omega), Nat.xor_assoc, Nat.xor_self, Nat.xor_zero, xor_low y (by omega)]
    omega

theorem ofInt_wd (b : Int) : (BitVec.ofInt 64 b).toNat = wd b := by
  rw [BitVec.toNat_ofInt]
  unfold wd
  rw [IntKind.wrap_u64]
  rfl

/-- The sign turned, and taken away, in numbers with a sign. -/
theorem xor_sign (b : Int) : bits .xor .i64 b (-9223372036854775808) = wrap64 (flip (wd b) : Int) := by
  show IntKind.i64.wrap ((BitVec.ofInt 64 b ^^^ BitVec.ofInt 64 (-9223372036854775808)).toNat : Int) = _
  rw [BitVec.toNat_xor, ofInt_wd]
  have e : (BitVec.ofInt 64 (-9223372036854775808)).toNat = 2 ^ 63 := by decide
  rw [e, xor_flip _ (wd_lt b), IntKind.wrap_i64]
  unfold wrap64
  rfl
theorem andNot_sign (b : Int) : bits .andNot .i64 b (-9223372036854775808) = (rungOf (wd b) : Int) := by
  show IntKind.i64.wrap ((BitVec.ofInt 64 b &&& ~~~BitVec.ofInt 64 (-9223372036854775808)).toNat : Int) = _
  rw [BitVec.toNat_and, ofInt_wd]
  have e : (~~~BitVec.ofInt 64 (-9223372036854775808)).toNat = 2 ^ 63 - 1 := by decide
  rw [e, Nat.and_two_pow_sub_one_eq_mod]
  have := rungOf_lt (wd b)
  unfold rungOf at this ⊢
  rw [IntKind.wrap_i64]
  omega
end Go.Proofs.YtfkdaimhdjaefaaDoor.Flt
