/- Whole numbers of 64 bits: what each instruction makes of two, as plain functions. -/
import Derived.Test.YtfkdaimhdjaefaaDoorProg
import Derived.RowKit
import Derived.Laws.BitsAllLaws
namespace Go.Proofs.YtfkdaimhdjaefaaDoor.Alu
open Go.RowKit

def iadd (b c : Int) : Int := wrap64 (b + c)
def isub (b c : Int) : Int := wrap64 (b - c)
def imul (b c : Int) : Int := wrap64 (b * c)
def idiv (b c : Int) : Int := wrap64 (b.tdiv c)
def irem (b c : Int) : Int := wrap64 (b - wrap64 (idiv b c * c))
def iand (b c : Int) : Int := bits .and .i64 b c
def ior (b c : Int) : Int := bits .or .i64 b c
def ixor (b c : Int) : Int := bits .xor .i64 b c
def ishl (b c : Int) : Int := if c < 0 then b else wrap64 (b * 2 ^ min c.toNat 64)
def ishr (b c : Int) : Int := if c < 0 then b else b / 2 ^ min c.toNat 64
def iless (b c : Int) : Int := if b < c then 1 else 0
def iequal (b c : Int) : Int := if b = c then 1 else 0

/-- A whole number of 64 bits. -/
def Fits (b : Int) : Prop := -9223372036854775808 ≤ b ∧ b ≤ 9223372036854775807

theorem wrap64_fits (n : Int) : Fits (wrap64 n) := by unfold Fits wrap64; omega
theorem wrap64_id {n : Int} (h : Fits n) : wrap64 n = n := by unfold Fits at h; unfold wrap64; omega
end Go.Proofs.YtfkdaimhdjaefaaDoor.Alu

/- What follows of two whole numbers. -/
namespace Go.Proofs.YtfkdaimhdjaefaaDoor.Alu
open Go.RowKit

theorem bmod_wrap (n : Int) : (BitVec.ofInt 64 n).toInt = wrap64 n := by
  rw [BitVec.toInt_ofInt]
  unfold wrap64 Int.bmod
  simp only []
  split <;> omega

theorem toInt_fits (x : BitVec 64) : Fits x.toInt := by
  have h1 := BitVec.toInt_lt (x := x)
  have h2 := BitVec.le_toInt x
  unfold Fits
  simp at h1 h2
  omega

theorem ofInt_toInt64 (x : BitVec 64) : BitVec.ofInt 64 x.toInt = x := BitVec.ofInt_toInt

theorem wrap_toNat (x : BitVec 64) : IntKind.i64.wrap (x.toNat : Int) = x.toInt := by
  have h := x.isLt
  rw [BitVec.toInt_eq_toNat_bmod]
  simp only [IntKind.wrap, IntKind.bits, IntKind.signed]
  unfold Int.bmod
  simp
  split <;> omega

theorem iadd_bv (b c : Int) : iadd b c = (BitVec.ofInt 64 b + BitVec.ofInt 64 c).toInt := by
  rw [← BitVec.ofInt_add, bmod_wrap]; rfl
theorem isub_bv (b c : Int) : isub b c = (BitVec.ofInt 64 b - BitVec.ofInt 64 c).toInt := by
  rw [BitVec.sub_eq_add_neg, ← BitVec.ofInt_neg, ← BitVec.ofInt_add, bmod_wrap, ← Int.sub_eq_add_neg]; rfl
theorem iand_bv (b c : Int) : iand b c = (BitVec.ofInt 64 b &&& BitVec.ofInt 64 c).toInt := wrap_toNat _
theorem ior_bv (b c : Int) : ior b c = (BitVec.ofInt 64 b ||| BitVec.ofInt 64 c).toInt := wrap_toNat _
theorem ixor_bv (b c : Int) : ixor b c = (BitVec.ofInt 64 b ^^^ BitVec.ofInt 64 c).toInt := wrap_toNat _
theorem ofInt_self {b : Int} (h : Fits b) : (BitVec.ofInt 64 b).toInt = b := by rw [bmod_wrap, wrap64_id h]

theorem sub_add_back (b c : Int) (h : Fits b) : isub (iadd b c) c = b := by
  unfold Fits at h; unfold isub iadd wrap64; omega
theorem add_sub_back (b c : Int) (h : Fits b) : iadd (isub b c) c = b := by
  unfold Fits at h; unfold isub iadd wrap64; omega
theorem xor_back (b c : Int) (h : Fits b) : ixor (ixor b c) c = b := by
  rw [ixor_bv, ixor_bv b c, ofInt_toInt64, BitVec.xor_assoc, BitVec.xor_self, BitVec.xor_zero, ofInt_self h]
theorem whole_back (b c : Int) (h : Fits b) : iadd (imul (idiv b c) c) (irem b c) = b := by
  unfold iadd imul irem
  generalize idiv b c * c = x
  unfold Fits at h; unfold wrap64; omega
theorem bv_and_add_or (x y : BitVec 64) : (x &&& y) + (x ||| y) = x + y := by
  have h0 : (x &&& y) &&& (x &&& ~~~y) = 0#64 := by
    ext i hi
    simp only [BitVec.getElem_and, BitVec.getElem_not, BitVec.getElem_zero]
    cases x[i] <;> cases y[i] <;> rfl
  have h1 : (x &&& y) ||| (x &&& ~~~y) = x := by
    ext i hi
    simp only [BitVec.getElem_and, BitVec.getElem_or, BitVec.getElem_not]
    cases x[i] <;> cases y[i] <;> rfl
  have h2 : (x &&& ~~~y) &&& y = 0#64 := by
    ext i hi
    simp only [BitVec.getElem_and, BitVec.getElem_not, BitVec.getElem_zero]
    cases x[i] <;> cases y[i] <;> rfl
  have h3 : (x &&& ~~~y) ||| y = x ||| y := by
    ext i hi
    simp only [BitVec.getElem_and, BitVec.getElem_or, BitVec.getElem_not]
    cases x[i] <;> cases y[i] <;> rfl
  have e1 := BitVec.add_eq_or_of_and_eq_zero _ _ h0
  have e2 := BitVec.add_eq_or_of_and_eq_zero _ _ h2
  rw [← h3, ← e2, ← BitVec.add_assoc, e1, h1]
theorem and_add_or_i (b c : Int) : iadd (iand b c) (ior b c) = iadd b c := by
  rw [iadd_bv, iand_bv, ior_bv, ofInt_toInt64, ofInt_toInt64, iadd_bv, bv_and_add_or]
theorem or_sub_and_i (b c : Int) : isub (ior b c) (iand b c) = ixor b c := by
  rw [isub_bv, iand_bv, ior_bv, ofInt_toInt64, ofInt_toInt64, ixor_bv]
  congr 1
  generalize BitVec.ofInt 64 b = x
  generalize BitVec.ofInt 64 c = y
  have h0 : (x ^^^ y) &&& (x &&& y) = 0#64 := by
    ext i hi
    simp only [BitVec.getElem_and, BitVec.getElem_xor, BitVec.getElem_zero]
    cases x[i] <;> cases y[i] <;> rfl
  have h1 : (x ^^^ y) ||| (x &&& y) = x ||| y := by
    ext i hi
    simp only [BitVec.getElem_and, BitVec.getElem_or, BitVec.getElem_xor]
    cases x[i] <;> cases y[i] <;> rfl
  have h2 := BitVec.add_eq_or_of_and_eq_zero (x ^^^ y) (x &&& y) h0
  rw [← h1, ← h2, BitVec.add_sub_cancel]

theorem idiv_exact (b c : Int) (hb : Fits b) (hn : ¬ (b = -9223372036854775808 ∧ c = -1)) : idiv b c = b.tdiv c := by
  refine wrap64_id ?_
  have h1 : (b.tdiv c).natAbs = b.natAbs / c.natAbs := Int.natAbs_tdiv b c
  have h2 : b.natAbs / c.natAbs ≤ b.natAbs := Nat.div_le_self _ _
  unfold Fits at *
  by_cases hc : c.natAbs ≤ 1
  · have h3 : c = 0 ∨ c = 1 ∨ c = -1 := by omega
    rcases h3 with rfl | rfl | rfl
    · simp
    · simp; omega
    · have : b.tdiv (-1) = -b := by rw [Int.tdiv_neg, Int.tdiv_one]
      omega
  · have h4 : b.natAbs / c.natAbs ≤ b.natAbs / 2 := Nat.div_le_div_left (by omega) (by omega)
    omega

theorem irem_exact (b c : Int) (hb : Fits b) (hc : Fits c) (h0 : c ≠ 0) : irem b c = b.tmod c := by
  by_cases h : b = -9223372036854775808 ∧ c = -1
  · obtain ⟨rfl, rfl⟩ := h
    decide +kernel
  · have h1 := idiv_exact b c hb h
    unfold irem
    rw [h1]
    have h2 := Int.mul_tdiv_add_tmod b c
    have h3 : b.tdiv c * c = c * b.tdiv c := Int.mul_comm _ _
    rw [h3]
    generalize c * b.tdiv c = x at *
    have h4 : (b.tmod c).natAbs = b.natAbs % c.natAbs := Int.natAbs_tmod b c
    have h5 : b.natAbs % c.natAbs < c.natAbs := Nat.mod_lt _ (by omega)
    have h6 : b.natAbs % c.natAbs ≤ b.natAbs := Nat.mod_le _ _
    unfold Fits at *
    unfold wrap64
    by_cases hs : 0 ≤ b
    · have := Int.tmod_nonneg c hs
      omega
    · have := Int.tmod_nonneg (a := -b) c (by omega)
      rw [Int.neg_tmod] at this
      omega

/-- The rest's sign and size. -/
theorem rem_signs (b c : Int) (hb : Fits b) (hc : Fits c) (h0 : c ≠ 0) :
    (irem b c ≠ 0 → (irem b c < 0 ↔ b < 0)) ∧ (irem b c).natAbs < c.natAbs := by
  rw [irem_exact b c hb hc h0]
  have h4 : (b.tmod c).natAbs = b.natAbs % c.natAbs := Int.natAbs_tmod b c
  have h5 : b.natAbs % c.natAbs < c.natAbs := Nat.mod_lt _ (by omega)
  refine ⟨fun hne => ?_, by omega⟩
  by_cases hs : 0 ≤ b
  · have := Int.tmod_nonneg c hs
    omega
  · have := Int.tmod_nonneg (a := -b) c (by omega)
    rw [Int.neg_tmod] at this
    omega

theorem iless_01 (b c : Int) : 0 ≤ iless b c ∧ iless b c ≤ 1 ∧ (iless b c = 1 ↔ b < c) := by
  unfold iless; split <;> simp_all
theorem iequal_01 (b c : Int) : 0 ≤ iequal b c ∧ iequal b c ≤ 1 ∧ (iequal b c = 1 ↔ b = c) := by
  unfold iequal; split <;> simp_all
end Go.Proofs.YtfkdaimhdjaefaaDoor.Alu

/- Shifts. -/
namespace Go.Proofs.YtfkdaimhdjaefaaDoor.Alu
open Go.RowKit

/-- 2 to the n. -/
def pw (n : Nat) : Int := 2 ^ n
theorem pw_pos (n : Nat) : 0 < pw n := Int.pow_pos (by decide)
theorem pw_add (a b : Nat) : pw (a + b) = pw a * pw b := Int.pow_add ..
theorem pw_64 : pw 64 = 18446744073709551616 := by decide
theorem pw_63 : pw 63 = 9223372036854775808 := by decide
theorem pw_lt {a b : Nat} (h : a < b) : pw a < pw b := Int.pow_lt_pow_of_lt (by decide) h

theorem wrap64_add_mul (n k : Int) : wrap64 (n + k * 18446744073709551616) = wrap64 n := by
  unfold wrap64; omega
theorem wrap64_decomp (n : Int) : ∃ k, n = wrap64 n + k * 18446744073709551616 := by
  refine ⟨(n + 9223372036854775808) / 18446744073709551616, ?_⟩
  unfold wrap64; omega
theorem wrap64_mul_right (b z : Int) : wrap64 (b * wrap64 z) = wrap64 (b * z) := by
  obtain ⟨k, hk⟩ := wrap64_decomp z
  have e : b * z = b * wrap64 z + b * k * 18446744073709551616 := by
    conv => lhs; rw [hk]
    rw [Int.mul_add, Int.mul_assoc]
  rw [e, wrap64_add_mul]
theorem wrap64_mul_left (b z : Int) : wrap64 (wrap64 z * b) = wrap64 (z * b) := by
  rw [Int.mul_comm, wrap64_mul_right, Int.mul_comm]
theorem wrap64_zero : wrap64 0 = 0 := by unfold wrap64; omega
theorem wrap64_big (b : Int) (n : Nat) (h : 64 ≤ n) : wrap64 (b * pw n) = 0 := by
  obtain ⟨m, rfl⟩ := Nat.exists_eq_add_of_le h
  have e : b * pw (64 + m) = 0 + b * pw m * 18446744073709551616 := by
    rw [pw_add, pw_64, Int.mul_comm 18446744073709551616, Int.zero_add, Int.mul_assoc]
  rw [e, wrap64_add_mul, wrap64_zero]

theorem ishl_nat (b : Int) (x : Nat) : ishl b (x : Int) = wrap64 (b * pw x) := by
  have h0 : ¬ ((x : Int) < 0) := by omega
  unfold ishl
  rw [if_neg h0, Int.toNat_natCast]
  by_cases h : x ≤ 64
  · rw [Nat.min_eq_left h]; rfl
  · rw [Nat.min_eq_right (by omega)]
    rw [wrap64_big b x (by omega)]
    exact wrap64_big b 64 (Nat.le_refl _)

theorem div_big (b : Int) (hb : Fits b) (n : Nat) (h : 63 ≤ n) : b / pw n = if b < 0 then -1 else 0 := by
  have h1 : 9223372036854775808 ≤ pw n := by
    rw [← pw_63]
    rcases Nat.eq_or_lt_of_le h with e | e
    · rw [e]; exact Int.le_refl _
    · exact Int.le_of_lt (pw_lt e)
  unfold Fits at hb
  generalize pw n = p at *
  have hp : 0 < p := by omega
  split
  · refine Int.le_antisymm ?_ ?_
    · have := Int.ediv_lt_of_lt_mul (a := b) (b := 0) hp (by omega)
      omega
    · exact Int.le_ediv_of_mul_le hp (by omega)
  · exact Int.ediv_eq_zero_of_lt (by omega) (by omega)

theorem ishr_nat (b : Int) (hb : Fits b) (x : Nat) : ishr b (x : Int) = b / pw x := by
  have h0 : ¬ ((x : Int) < 0) := by omega
  unfold ishr
  rw [if_neg h0, Int.toNat_natCast]
  by_cases h : x ≤ 64
  · rw [Nat.min_eq_left h]; rfl
  · rw [Nat.min_eq_right (by omega), div_big b hb x (by omega)]
    exact div_big b hb 64 (by omega)

theorem div_fits (b : Int) (hb : Fits b) (x : Nat) : Fits (b / pw x) := by
  have hp := pw_pos x
  unfold Fits at *
  generalize pw x = p at *
  refine ⟨?_, ?_⟩
  · refine Int.le_ediv_of_mul_le hp ?_
    have : -9223372036854775808 * p ≤ -9223372036854775808 * 1 := Int.mul_le_mul_of_nonpos_left (by omega) (by omega)
    omega
  · have h1 : b / p < 9223372036854775808 := by
      refine Int.ediv_lt_of_lt_mul hp ?_
      have : 9223372036854775808 * 1 ≤ 9223372036854775808 * p := Int.mul_le_mul_of_nonneg_left (by omega) (by omega)
      omega
    omega

theorem shl_is_mul (b : Int) (x : Nat) : imul b (ishl 1 (x : Int)) = ishl b (x : Int) := by
  rw [ishl_nat, ishl_nat]
  unfold imul
  rw [wrap64_mul_right, Int.one_mul]
theorem shl_shl (b : Int) (x y : Nat) : ishl (ishl b (x : Int)) (y : Int) = ishl b ((x + y : Nat) : Int) := by
  rw [ishl_nat, ishl_nat, ishl_nat, wrap64_mul_left, pw_add, Int.mul_assoc]
theorem shr_shr (b : Int) (hb : Fits b) (x y : Nat) : ishr (ishr b (x : Int)) (y : Int) = ishr b ((x + y : Nat) : Int) := by
  rw [ishr_nat b hb, ishr_nat _ (div_fits b hb x), ishr_nat b hb, pw_add, Int.ediv_ediv_of_nonneg (Int.le_of_lt (pw_pos x))]
theorem shl_neg (b c : Int) (h : c < 0) : ishl b c = b := by unfold ishl; rw [if_pos h]
theorem shr_neg (b c : Int) (h : c < 0) : ishr b c = b := by unfold ishr; rw [if_pos h]

theorem least_div (x : Nat) (hx : x < 63) : (-9223372036854775808 : Int) / pw x = -pw (63 - x) ∧ pw (63 - x) * pw x = 9223372036854775808 := by
  have e : pw (63 - x) * pw x = 9223372036854775808 := by rw [← pw_add, show 63 - x + x = 63 by omega, pw_63]
  refine ⟨?_, e⟩
  have h2 : (-9223372036854775808 : Int) = -pw (63 - x) * pw x := by rw [Int.neg_mul, e]
  rw [h2]
  exact Int.mul_ediv_cancel _ (by have := pw_pos x; omega)

theorem back_kept (b : Int) (x : Nat) (hx : x < 63) (h1 : b ≤ 9223372036854775807 / pw x) (h2 : -9223372036854775808 / pw x ≤ b) :
    ishr (ishl b (x : Int)) (x : Int) = b := by
  have hp := pw_pos x
  obtain ⟨e1, e2⟩ := least_div x hx
  have h3 : b * pw x ≤ 9223372036854775807 := Int.le_trans (Int.mul_le_mul_of_nonneg_right h1 (Int.le_of_lt hp)) (Int.ediv_mul_le _ (by omega))
  have h4 : -9223372036854775808 ≤ b * pw x := by
    rw [e1] at h2
    have := Int.mul_le_mul_of_nonneg_right h2 (Int.le_of_lt hp)
    rw [Int.neg_mul, e2] at this
    exact this
  have hf : Fits (b * pw x) := ⟨h3 |> fun _ => h4, h3⟩
  rw [ishl_nat, wrap64_id hf, ishr_nat _ hf]
  exact Int.mul_ediv_cancel _ (by omega)

theorem down_sign (b : Int) (hb : Fits b) (x : Nat) : ishr b (x : Int) < 0 ↔ b < 0 := by
  rw [ishr_nat b hb]
  have hp := pw_pos x
  constructor
  · intro h
    rcases Int.lt_or_le b 0 with h1 | h1
    · exact h1
    · have := Int.ediv_nonneg h1 (Int.le_of_lt hp)
      omega
  · intro h
    exact Int.ediv_neg_of_neg_of_pos h hp

theorem one_at (x : Nat) (hx : x < 63) : ishl 1 (x : Int) = pw x := by
  rw [ishl_nat, Int.one_mul]
  have := pw_lt hx
  rw [pw_63] at this
  have hp := pw_pos x
  exact wrap64_id ⟨by omega, by omega⟩

theorem down_part (b : Int) (hb : Fits b) (x : Nat) (hx : x < 63) :
    imul (ishr b (x : Int)) (ishl 1 (x : Int)) ≤ b ∧ b - imul (ishr b (x : Int)) (ishl 1 (x : Int)) < ishl 1 (x : Int) ∧ Fits (imul (ishr b (x : Int)) (ishl 1 (x : Int))) := by
  have hp := pw_pos x
  have hl := pw_lt hx
  rw [pw_63] at hl
  obtain ⟨e1, e2⟩ := least_div x hx
  rw [one_at x hx, ishr_nat b hb]
  unfold imul
  have h1 : b / pw x * pw x ≤ b := Int.ediv_mul_le _ (by omega)
  have h2 : b - b / pw x * pw x < pw x := by
    have := Int.emod_lt_of_pos b hp
    have h3 := Int.mul_ediv_add_emod b (pw x)
    rw [Int.mul_comm] at h3
    omega
  have h4 : -9223372036854775808 ≤ b / pw x * pw x := by
    have h5 : -9223372036854775808 / pw x ≤ b / pw x := Int.ediv_le_ediv hp hb.1
    rw [e1] at h5
    have := Int.mul_le_mul_of_nonneg_right h5 (Int.le_of_lt hp)
    rw [Int.neg_mul, e2] at this
    exact this
  have hb2 := hb.2
  have hf : Fits (b / pw x * pw x) := ⟨h4, by omega⟩
  rw [wrap64_id hf]
  exact ⟨h1, h2, hf⟩
end Go.Proofs.YtfkdaimhdjaefaaDoor.Alu

/- The document's own quotients and shifts. -/
namespace Go.Proofs.YtfkdaimhdjaefaaDoor.Alu
open Go.RowKit

theorem tdiv_like (b c : Int) (h : (b < 0) = (c < 0)) : b.tdiv c = ((b.natAbs / c.natAbs : Nat) : Int) := by
  by_cases hb : b < 0
  · have hc : c < 0 := by rw [← h]; exact hb
    obtain ⟨B, hB⟩ := Int.eq_ofNat_of_zero_le (show 0 ≤ -b by omega)
    obtain ⟨C, hC⟩ := Int.eq_ofNat_of_zero_le (show 0 ≤ -c by omega)
    obtain rfl : b = -(B : Int) := by omega
    obtain rfl : c = -(C : Int) := by omega
    rw [Int.neg_tdiv_neg, Int.natAbs_neg, Int.natAbs_neg]
    rfl
  · have hc : ¬ c < 0 := by rw [← h]; exact hb
    obtain ⟨B, rfl⟩ := Int.eq_ofNat_of_zero_le (show 0 ≤ b by omega)
    obtain ⟨C, rfl⟩ := Int.eq_ofNat_of_zero_le (show 0 ≤ c by omega)
    rfl
theorem tdiv_unlike (b c : Int) (h : (b < 0) ≠ (c < 0)) : b.tdiv c = -((b.natAbs / c.natAbs : Nat) : Int) := by
  by_cases hb : b < 0
  · have hc : ¬ c < 0 := fun hc => h (by simp [hb, hc])
    obtain ⟨B, hB⟩ := Int.eq_ofNat_of_zero_le (show 0 ≤ -b by omega)
    obtain ⟨C, rfl⟩ := Int.eq_ofNat_of_zero_le (show 0 ≤ c by omega)
    obtain rfl : b = -(B : Int) := by omega
    rw [Int.neg_tdiv, Int.natAbs_neg]
    rfl
  · have hc : c < 0 := by
      rcases Decidable.em (c < 0) with h1 | h1
      · exact h1
      · exact absurd (by simp [hb, h1]) h
    obtain ⟨B, rfl⟩ := Int.eq_ofNat_of_zero_le (show 0 ≤ b by omega)
    obtain ⟨C, hC⟩ := Int.eq_ofNat_of_zero_le (show 0 ≤ -c by omega)
    obtain rfl : c = -(C : Int) := by omega
    rw [Int.tdiv_neg, Int.natAbs_neg]
    rfl

theorem up_step (b : Int) (k : Nat) : wrap64 (wrap64 (b * pw k) + wrap64 (b * pw k)) = wrap64 (b * pw (k + 1)) := by
  have e : b * pw (k + 1) = b * pw k + b * pw k := by
    rw [pw_add, show pw 1 = 2 from by decide, ← Int.mul_assoc]; omega
  rw [e]
  generalize b * pw k = z
  unfold wrap64
  omega
theorem up_end (b : Int) (C : Nat) : wrap64 (b * pw (min C 64)) = ishl b (C : Int) := by
  rw [ishl_nat]
  by_cases h : C ≤ 64
  · rw [Nat.min_eq_left h]
  · rw [Nat.min_eq_right (by omega), wrap64_big _ _ (Nat.le_refl _), wrap64_big _ _ (by omega)]
theorem up_zero (b : Int) (hb : Fits b) : wrap64 (b * pw 0) = b := by
  rw [show pw 0 = 1 from by decide, Int.mul_one, wrap64_id hb]
theorem down_step (b : Int) (k : Nat) : b / pw k / 2 = b / pw (k + 1) := by
  rw [pw_add, show pw 1 = 2 from by decide, Int.ediv_ediv_of_nonneg (Int.le_of_lt (pw_pos k))]
theorem down_end (b : Int) (hb : Fits b) (C : Nat) : b / pw (min C 64) = ishr b (C : Int) := by
  rw [ishr_nat b hb]
  by_cases h : C ≤ 64
  · rw [Nat.min_eq_left h]
  · rw [Nat.min_eq_right (by omega), div_big _ hb _ (by omega), div_big _ hb _ (by omega)]
theorem down_zero (b : Int) : b / pw 0 = b := by rw [show pw 0 = 1 from by decide, Int.ediv_one]

theorem tdiv2_nonneg (x : Int) (h : 0 ≤ x) : x.tdiv 2 = x / 2 := Int.tdiv_eq_ediv_of_nonneg h
theorem tdiv2_even (x : Int) (h : x % 2 = 0) : x.tdiv 2 = x / 2 := Int.tdiv_eq_ediv_of_dvd (Int.dvd_of_emod_eq_zero h)
theorem tdiv2_odd (x : Int) (h : x % 2 = 1) : (x - 1).tdiv 2 = x / 2 := by
  rw [tdiv2_even (x - 1) (by omega)]; omega
theorem tmod2_odd (x : Int) (hx : x < 0) (h : x % 2 = 1) : x.tmod 2 = -1 := by
  have h1 := Int.mul_tdiv_add_tmod x 2
  have h2 : (x.tmod 2).natAbs = x.natAbs % 2 := Int.natAbs_tmod x 2
  have h3 := Int.tmod_nonneg (a := -x) 2 (by omega)
  rw [Int.neg_tmod] at h3
  omega
theorem tmod2_even (x : Int) (h : x % 2 = 0) : x.tmod 2 = 0 := by
  have h2 : (x.tmod 2).natAbs = x.natAbs % 2 := Int.natAbs_tmod x 2
  omega
end Go.Proofs.YtfkdaimhdjaefaaDoor.Alu

/- Bit by bit. -/
namespace Go.Proofs.YtfkdaimhdjaefaaDoor.Alu
open Go.RowKit

def onlyN (n : Nat) : Nat := 2 ^ n
theorem onlyN_lt (n : Nat) (h : n < 64) : onlyN n < 18446744073709551616 := by
  have : 2 ^ n < 2 ^ 64 := Nat.pow_lt_pow_right (by decide) h
  unfold onlyN; omega

/-- The number whose bits below k are as f tells. -/
def ofTo (f : Nat → Bool) : Nat → Nat
  | 0 => 0
  | k + 1 => if f k then ofTo f k ||| onlyN k else ofTo f k

theorem ofTo_lt (f : Nat → Bool) (k : Nat) (hk : k ≤ 64) : ofTo f k < 18446744073709551616 := by
  induction k with
  | zero => simp [ofTo]
  | succ k ih =>
    simp only [ofTo]
    split
    · have h1 := ih (by omega)
      have h2 := onlyN_lt k (by omega)
      exact Nat.or_lt_two_pow (n := 64) h1 h2
    · exact ih (by omega)
theorem ofTo_tb (f : Nat → Bool) (k i : Nat) : (ofTo f k).testBit i = (decide (i < k) && f i) := by
  induction k with
  | zero => simp [ofTo]
  | succ k ih =>
    simp only [ofTo]
    by_cases e : i = k
    · subst e
      cases h : f i <;> simp [ih, onlyN, Nat.testBit_or, Nat.testBit_two_pow_self]
    · have h2 : decide (i < k + 1) = decide (i < k) := by simp only [decide_eq_decide]; omega
      split
      · rw [Nat.testBit_or, ih, h2, onlyN, Nat.testBit_two_pow_of_ne (fun h => e h.symm), Bool.or_false]
      · rw [ih, h2]

theorem wrap_pow (k : Nat) (hk : k < 64) : IntKind.u64.wrap (2 ^ k) = ((onlyN k : Nat) : Int) := by
  rw [IntKind.wrap_u64]
  have := onlyN_lt k hk
  have e : (2 : Int) ^ k = ((onlyN k : Nat) : Int) := by unfold onlyN; simp
  rw [e]
  exact Int.emod_eq_of_lt (by omega) (by omega)

def tv : Bool → Int
  | true => 1
  | false => 0

theorem bit_of (X k : Nat) (hX : X < 18446744073709551616) : bits .and .u64 ((X / 2 ^ k : Nat) : Int) 1 = tv (X.testBit k) := by
  have h1 : X / 2 ^ k < 18446744073709551616 := Nat.lt_of_le_of_lt (Nat.div_le_self _ _) hX
  have := u64_and_nat (X / 2 ^ k) 1 h1 (by decide)
  rw [show ((1 : Nat) : Int) = 1 from rfl] at this
  rw [this, Nat.and_one_is_mod]
  have e : X.testBit k = decide (X / 2 ^ k % 2 = 1) := by
    rw [Nat.testBit_eq_decide_div_mod_eq]
  rw [e]
  have h2 : X / 2 ^ k % 2 = 0 ∨ X / 2 ^ k % 2 = 1 := by omega
  rcases h2 with h | h <;> rw [h] <;> rfl

theorem or_bit (O k : Nat) (z : Bool) (hl : O < 18446744073709551616) (hk : k < 64) :
    bits .or .u64 (O : Int) (IntKind.u64.wrap (tv z * 2 ^ k)) = ((if z = true then O ||| onlyN k else O : Nat) : Int) := by
  cases z
  · have e3 := u64_or_nat O 0 hl (by decide)
    rw [Nat.or_zero] at e3
    rw [show tv false = 0 from rfl, Int.zero_mul]
    exact e3
  · rw [show tv true = 1 from rfl, Int.one_mul, wrap_pow k hk, u64_or_nat O (onlyN k) hl (onlyN_lt k hk)]
    rfl

theorem ofInt_nat (b : Int) : ((BitVec.ofInt 64 b).toNat : Int) = IntKind.u64.wrap b := by
  rw [IntKind.wrap_u64, BitVec.toNat_ofInt]
  omega

theorem bits_end (f : Bool → Bool → Bool) (op : BitVec 64 → BitVec 64 → BitVec 64) (hop : ∀ x y i, i < 64 → (op x y).toNat.testBit i = f (x.toNat.testBit i) (y.toNat.testBit i)) (x y : BitVec 64) :
    ofTo (fun i => f (x.toNat.testBit i) (y.toNat.testBit i)) 64 = (op x y).toNat := by
  refine Nat.eq_of_testBit_eq fun i => ?_
  rw [ofTo_tb]
  by_cases h : i < 64
  · rw [hop x y i h]; simp [h]
  · have h1 : (op x y).toNat.testBit i = false := by
      refine Nat.testBit_lt_two_pow (Nat.lt_of_lt_of_le (op x y).isLt (Nat.pow_le_pow_right (by decide) (by omega)))
    rw [h1]; simp [h]
end Go.Proofs.YtfkdaimhdjaefaaDoor.Alu
