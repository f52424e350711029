/- What follows of two whole numbers. -/
import Derived.Test.YtfkdaimhdjaefaaDoorAM1
namespace Go.Proofs.YtfkdaimhdjaefaaDoor.Alu
open Go.RowKit

theorem bmod_wrap (n : Int) : (BitVec.ofInt 64 n).toInt = wrap64 n := by
  rw [BitVec.toInt_ofInt]
  unfold wrap64 Int.bmod
  simp only []
  split <;> omega

theorem toInt_fits (x : BitVec 64) : Fits x.toInt := by
  have h1 := BitVec.toInt_lt (x := x)
  have h2 := BitVec.le_toInt x
  unfold Fits
  simp at h1 h2
  omega

theorem ofInt_toInt64 (x : BitVec 64) : BitVec.ofInt 64 x.toInt = x := BitVec.ofInt_toInt

theorem wrap_toNat (x : BitVec 64) : IntKind.i64.wrap (x.toNat : Int) = x.toInt := by
  have h := x.isLt
  rw [BitVec.toInt_eq_toNat_bmod]
  simp only [IntKind.wrap, IntKind.bits, IntKind.signed]
  unfold Int.bmod
  simp
  split <;> omega

theorem iadd_bv (b c : Int) : iadd b c = (BitVec.ofInt 64 b + BitVec.ofInt 64 c).toInt := by
  rw [← BitVec.ofInt_add, bmod_wrap]; rfl
theorem isub_bv (b c : Int) : isub b c = (BitVec.ofInt 64 b - BitVec.ofInt 64 c).toInt := by
  rw [BitVec.sub_eq_add_neg, ← BitVec.ofInt_neg, ← BitVec.ofInt_add, bmod_wrap, ← Int.sub_eq_add_neg]; rfl
theorem iand_bv (b c : Int) : iand b c = (BitVec.ofInt 64 b &&& BitVec.ofInt 64 c).toInt := wrap_toNat _
theorem ior_bv (b c : Int) : ior b c = (BitVec.ofInt 64 b ||| BitVec.ofInt 64 c).toInt := wrap_toNat _
theorem ixor_bv (b c : Int) : ixor b c = (BitVec.ofInt 64 b ^^^ BitVec.ofInt 64 c).toInt := wrap_toNat _
theorem ofInt_self {b : Int} (h : Fits b) : (BitVec.ofInt 64 b).toInt = b := by rw [bmod_wrap, wrap64_id h]

theorem sub_add_back (b c : Int) (h : Fits b) : isub (iadd b c) c = b := by
  unfold Fits at h; unfold isub iadd wrap64; omega
theorem add_sub_back (b c : Int) (h : Fits b) : iadd (isub b c) c = b := by
  unfold Fits at h; unfold isub iadd wrap64; omega
theorem xor_back (b c : Int) (h : Fits b) : ixor (ixor b c) c = b := by
  rw [ixor_bv, ixor_bv b c, ofInt_toInt64, BitVec.xor_assoc, BitVec.xor_self, BitVec.xor_zero, ofInt_self h]
theorem whole_back (b c : Int) (h : Fits b) : iadd (imul (idiv b c) c) (irem b c) = b := by
  unfold iadd imul irem
  generalize idiv b c * c = x
  unfold Fits at h; unfold wrap64; omega
theorem bv_and_add_or (x y : BitVec 64) : (x &&& y) + (x ||| y) = x + y := by
  have h0 : (x &&& y) &&& (x &&& ~~~y) = 0#64 := by
    ext i hi
    simp only [BitVec.getElem_and, BitVec.getElem_not, BitVec.getElem_zero]
    cases x[i] <;> cases y[i] <;> rfl
  have h1 : (x &&& y) ||| (x &&& ~~~y) = x := by
    ext i hi
    simp only [BitVec.getElem_and, BitVec.getElem_or, BitVec.getElem_not]
    cases x[i] <;> cases y[i] <;> rfl
  have h2 : (x &&& ~~~y) &&& y = 0#64 := by
    ext i hi
    simp only [BitVec.getElem_and, BitVec.getElem_not, BitVec.getElem_zero]
    cases x[i] <;> cases y[i] <;> rfl
  have h3 : (x &&& ~~~y) ||| y = x ||| y := by
    ext i hi
    simp only [BitVec.getElem_and, BitVec.getElem_or, BitVec.getElem_not]
    cases x[i] <;> cases y[i] <;> rfl
  have e1 := BitVec.add_eq_or_of_and_eq_zero _ _ h0
  have e2 := BitVec.add_eq_or_of_and_eq_zero _ _ h2
  rw [← h3, ← e2, ← BitVec.add_assoc, e1, h1]
theorem and_add_or_i (b c : Int) : iadd (iand b c) (ior b c) = iadd b c := by
  rw [iadd_bv, iand_bv, ior_bv, ofInt_toInt64, ofInt_toInt64, iadd_bv, bv_and_add_or]
theorem or_sub_and_i (b c : Int) : isub (ior b c) (iand b c) = ixor b c := by
  rw [isub_bv, iand_bv, ior_bv, ofInt_toInt64, ofInt_toInt64, ixor_bv]
  congr 1
  generalize BitVec.ofInt 64 b = x
  generalize BitVec.ofInt 64 c = y
  have h0 : (x ^^^ y) &&& (x &&& y) = 0#64 := by
    ext i hi
    simp only [BitVec.getElem_and, BitVec.getElem_xor, BitVec.getElem_zero]
    cases x[i] <;> cases y[i] <;> rfl
  have h1 : (x ^^^ y) ||| (x &&& y) = x ||| y := by
    ext i hi
    simp only [BitVec.getElem_and, BitVec.getElem_or, BitVec.getElem_xor]
    cases x[i] <;> cases y[i] <;> rfl
  have h2 := BitVec.add_eq_or_of_and_eq_zero (x ^^^ y) (x &&& y) h0
  rw [← h1, ← h2, BitVec.add_sub_cancel]

theorem idiv_exact (b c : Int) (hb : Fits b) (hn : ¬ (b = -9223372036854775808 ∧ c = -1)) : idiv b c = b.tdiv c := by
  refine wrap64_id ?_
  have h1 : (b.tdiv c).natAbs = b.natAbs / c.natAbs := Int.natAbs_tdiv b c
  have h2 : b.natAbs / c.natAbs ≤ b.natAbs := Nat.div_le_self _ _
  unfold Fits at *
  by_cases hc : c.natAbs ≤ 1
  · have h3 : c = 0 ∨ c = 1 ∨ c = -1 := by omega
    rcases h3 with rfl | rfl | rfl
    · simp
    · simp; omega
    · have : b.tdiv (-1) = -b := by rw [Int.tdiv_neg, Int.tdiv_one]
      omega
  · have h4 : b.natAbs / c.natAbs ≤ b.natAbs / 2 := Nat.div_le_div_left (by omega) (by omega)
    omega

theorem irem_exact (b c : Int) (hb : Fits b) (hc : Fits c) (h0 : c ≠ 0) : irem b c = b.tmod c := by
  by_cases h : b = -9223372036854775808 ∧ c = -1
  · obtain ⟨rfl, rfl⟩ := h
    decide +kernel
  · have h1 := idiv_exact b c hb h
    unfold irem
    rw [h1]
    have h2 := Int.mul_tdiv_add_tmod b c
    have h3 : b.tdiv c * c = c * b.tdiv c := Int.mul_comm _ _
    rw [h3]
    generalize c * b.tdiv c = x at *
    have h4 : (b.tmod c).natAbs = b.natAbs % c.natAbs := Int.natAbs_tmod b c
    have h5 : b.natAbs % c.natAbs < c.natAbs := Nat.mod_lt _ (by omega)
    have h6 : b.natAbs % c.natAbs ≤ b.natAbs := Nat.mod_le _ _
    unfold Fits at *
    unfold wrap64
    by_cases hs : 0 ≤ b
    · have := Int.tmod_nonneg c hs
      omega
    · have := Int.tmod_nonneg (a := -b) c (by omega)
      rw [Int.neg_tmod] at this
      omega

/-- The rest's sign and size. -/
theorem rem_signs (b c : Int) (hb : Fits b) (hc : Fits c) (h0 : c ≠ 0) :
    (irem b c ≠ 0 → (irem b c < 0 ↔ b < 0)) ∧ (irem b c).natAbs < c.natAbs := by
  rw [irem_exact b c hb hc h0]
  have h4 : (b.tmod c).natAbs = b.natAbs % c.natAbs := Int.natAbs_tmod b c
  have h5 : b.natAbs % c.natAbs < c.natAbs := Nat.mod_lt _ (by omega)
  refine ⟨fun hne => ?_, by omega⟩
  by_cases hs : 0 ≤ b
  · have := Int.tmod_nonneg c hs
    omega
  · have := Int.tmod_nonneg (a := -b) c (by omega)
    rw [Int.neg_tmod] at this
    omega

theorem iless_01 (b c : Int) : 0 ≤ iless b c ∧ iless b c ≤ 1 ∧ (iless b c = 1 ↔ b < c) := by
  unfold iless; split <;> simp_all
theorem iequal_01 (b c : Int) : 0 ≤ iequal b c ∧ iequal b c ≤ 1 ∧ (iequal b c = 1 ↔ b = c) := by
  unfold iequal; split <;> simp_all
end Go.Proofs.YtfkdaimhdjaefaaDoor.Alu
