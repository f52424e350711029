/- Plain arithmetic of labels: no Go in sight. -/
import Derived.Laws.BitsAllLaws
import Derived.Lib.ItoaNum
namespace Go.Proofs.YtjjhfmiegoohlaaDoor

/-- Is the secret n in a? -/
def hasI (a : Nat) (n : Int) : Bool := decide (0 ≤ n) && decide (n < 64) && a.testBit n.toNat

/-- Does a flow to b? -/
def flowsB (a b : Nat) : Bool := a &&& b == a

theorem andNot_tb (b i : Nat) (hb : b < 18446744073709551616) : (18446744073709551615 - b).testBit i = (decide (i < 64) && !b.testBit i) := by
  have := Nat.testBit_two_pow_sub_succ (n := 64) (x := b) (by simpa using hb) i
  rw [← this]
  congr 1
  omega

theorem tb_big (a i : Nat) (ha : a < 18446744073709551616) (hi : 64 ≤ i) : a.testBit i = false := by
  apply Nat.testBit_lt_two_pow
  calc a < 2 ^ 64 := by simpa using ha
    _ ≤ 2 ^ i := Nat.pow_le_pow_right (by decide) hi

theorem flows_iff (a b : Nat) : flowsB a b = true ↔ ∀ i, a.testBit i = true → b.testBit i = true := by
  unfold flowsB
  rw [beq_iff_eq]
  constructor
  · intro h i hi
    have := congrArg (fun x => x.testBit i) h
    simp [Nat.testBit_and, hi] at this
    exact this
  · intro h
    apply Nat.eq_of_testBit_eq
    intro i
    rw [Nat.testBit_and]
    cases hi : a.testBit i
    · rfl
    · simp [h i hi]

theorem flows_andNot (a b : Nat) (ha : a < 18446744073709551616) (hb : b < 18446744073709551616) :
    ((a &&& (18446744073709551615 - b)) == 0) = flowsB a b := by
  rw [Bool.eq_iff_iff, flows_iff, beq_iff_eq]
  constructor
  · intro h i hi
    have := congrArg (fun x => x.testBit i) h
    simp only [Nat.testBit_and, hi, andNot_tb b i hb, Nat.zero_testBit, Bool.true_and] at this
    by_cases h64 : i < 64
    · simpa [h64] using this
    · rw [tb_big a i ha (by omega)] at hi; cases hi
  · intro h
    apply Nat.eq_of_testBit_eq
    intro i
    rw [Nat.testBit_and, andNot_tb b i hb, Nat.zero_testBit]
    cases hi : a.testBit i
    · rfl
    · simp [h i hi]

/-- The label of one secret. -/
def onlyN (n : Nat) : Nat := 2 ^ n
theorem onlyN_lt (n : Nat) (h : n < 64) : onlyN n < 18446744073709551616 := by
  have : (2 : Nat) ^ n < 2 ^ 64 := Nat.pow_lt_pow_right (by decide) h
  unfold onlyN
  simpa using this

theorem has_and (a n : Nat) : (!((a &&& onlyN n : Nat) == 0)) = a.testBit n := by
  unfold onlyN
  rw [nat_bit, Nat.testBit_eq_decide_div_mod_eq]
  have hp : 0 < 2 ^ n := Nat.two_pow_pos n
  rcases Nat.mod_two_eq_zero_or_one (a / 2 ^ n) with h | h <;> simp [h] <;> omega

/-- A number below 100 in decimal. -/
def dec (n : Nat) : List UInt8 := if n < 10 then [UInt8.ofNat (48 + n)] else [UInt8.ofNat (48 + n / 10), UInt8.ofNat (48 + n % 10)]
theorem dec_len (n : Nat) : 1 ≤ (dec n).length ∧ (dec n).length ≤ 2 := by
  unfold dec; split <;> simp

/-- The text of the secrets below k that are in a, not yet closed. -/
def txt (a : Nat) : Nat → List UInt8
  | 0 => [123]
  | k + 1 => if a.testBit k then (if 1 < (txt a k).length then txt a k ++ [44] else txt a k) ++ dec k else txt a k
def printL (a : Nat) : List UInt8 := txt a 64 ++ [125]

theorem txt_len (a k : Nat) : 1 ≤ (txt a k).length ∧ (txt a k).length ≤ 1 + 3 * k := by
  induction k with
  | zero => simp [txt]
  | succ k ih =>
    have := dec_len k
    simp only [txt]
    split
    · split <;> simp <;> omega
    · omega

end Go.Proofs.YtjjhfmiegoohlaaDoor
