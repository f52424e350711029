/- Bit by bit. -/
import Derived.Test.YtdmholagdmdlcaaM2
namespace Go.Proofs.Ytdmholagdmdlcaa
open Go.RowKit

def onlyN (n : Nat) : Nat := 2 ^ n
theorem onlyN_lt (n : Nat) (h : n < 64) : onlyN n < 18446744073709551616 := by
  have : 2 ^ n < 2 ^ 64 := Nat.pow_lt_pow_right (by decide) h
  unfold onlyN; omega

/-- The number whose bits below k are as f tells. -/
def ofTo (f : Nat → Bool) : Nat → Nat
  | 0 => 0
  | k + 1 => if f k then ofTo f k ||| onlyN k else ofTo f k

theorem ofTo_lt (f : Nat → Bool) (k : Nat) (hk : k ≤ 64) : ofTo f k < 18446744073709551616 := by
  induction k with
  | zero => simp [ofTo]
  | succ k ih =>
    simp only [ofTo]
    split
    · have h1 := ih (by omega)
      have h2 := onlyN_lt k (by omega)
      exact Nat.or_lt_two_pow (n := 64) h1 h2
    · exact ih (by omega)
theorem ofTo_tb (f : Nat → Bool) (k i : Nat) : (ofTo f k).testBit i = (decide (i < k) && f i) := by
  induction k with
  | zero => simp [ofTo]
  | succ k ih =>
    simp only [ofTo]
    by_cases e : i = k
    · subst e
      cases h : f i <;> simp [ih, onlyN, Nat.testBit_or, Nat.testBit_two_pow_self]
    · have h2 : decide (i < k + 1) = decide (i < k) := by simp only [decide_eq_decide]; omega
      split
      · rw [Nat.testBit_or, ih, h2, onlyN, Nat.testBit_two_pow_of_ne (fun h => e h.symm), Bool.or_false]
      · rw [ih, h2]

theorem wrap_pow (k : Nat) (hk : k < 64) : IntKind.u64.wrap (2 ^ k) = ((onlyN k : Nat) : Int) := by
  rw [IntKind.wrap_u64]
  have := onlyN_lt k hk
  have e : (2 : Int) ^ k = ((onlyN k : Nat) : Int) := by unfold onlyN; simp
  rw [e]
  exact Int.emod_eq_of_lt (by omega) (by omega)

def tv : Bool → Int
  | true => 1
  | false => 0

theorem bit_of (X k : Nat) (hX : X < 18446744073709551616) : bits .and .u64 ((X / 2 ^ k : Nat) : Int) 1 = tv (X.testBit k) := by
  have h1 : X / 2 ^ k < 18446744073709551616 := Nat.lt_of_le_of_lt (Nat.div_le_self _ _) hX
  have := u64_and_nat (X / 2 ^ k) 1 h1 (by decide)
  rw [show ((1 : Nat) : Int) = 1 from rfl] at this
  rw [this, Nat.and_one_is_mod]
  have e : X.testBit k = decide (X / 2 ^ k % 2 = 1) := by
    rw [Nat.testBit_eq_decide_div_mod_eq]
  rw [e]
  have h2 : X / 2 ^ k % 2 = 0 ∨ X / 2 ^ k % 2 = 1 := by omega
  rcases h2 with h | h <;> rw [h] <;> rfl

theorem or_bit (O k : Nat) (z : Bool) (hl : O < 18446744073709551616) (hk : k < 64) :
    bits .or .u64 (O : Int) (IntKind.u64.wrap (tv z * 2 ^ k)) = ((if z = true then O ||| onlyN k else O : Nat) : Int) := by
  cases z
  · have e3 := u64_or_nat O 0 hl (by decide)
    rw [Nat.or_zero] at e3
    rw [show tv false = 0 from rfl, Int.zero_mul]
    exact e3
  · rw [show tv true = 1 from rfl, Int.one_mul, wrap_pow k hk, u64_or_nat O (onlyN k) hl (onlyN_lt k hk)]
    rfl

theorem ofInt_nat (b : Int) : ((BitVec.ofInt 64 b).toNat : Int) = IntKind.u64.wrap b := by
  rw [IntKind.wrap_u64, BitVec.toNat_ofInt]
  omega

theorem bits_end (f : Bool → Bool → Bool) (op : BitVec 64 → BitVec 64 → BitVec 64) (hop : ∀ x y i, i < 64 → (op x y).toNat.testBit i = f (x.toNat.testBit i) (y.toNat.testBit i)) (x y : BitVec 64) :
    ofTo (fun i => f (x.toNat.testBit i) (y.toNat.testBit i)) 64 = (op x y).toNat := by
  refine Nat.eq_of_testBit_eq fun i => ?_
  rw [ofTo_tb]
  by_cases h : i < 64
  · rw [hop x y i h]; simp [h]
  · have h1 : (op x y).toNat.testBit i = false := by
      refine Nat.testBit_lt_two_pow (Nat.lt_of_lt_of_le (op x y).isLt (Nat.pow_le_pow_right (by decide) (by omega)))
    rw [h1]; simp [h]
end Go.Proofs.Ytdmholagdmdlcaa
