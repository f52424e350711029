/- Plain arithmetic of labels and of tables: no Go in sight. -/
import Derived.Laws.BitsAllLaws
import Derived.Maps.Views
namespace Go.Proofs.Ytaikeeidjfcijaa
open Go.Maps

/-- Is the secret n in a? -/
def hasI (a : Nat) (n : Int) : Bool := decide (0 ≤ n) && decide (n < 64) && a.testBit n.toNat

/-- Does a flow to b? -/
def flowsB (a b : Nat) : Bool := a &&& b == a

theorem andNot_tb (b i : Nat) (hb : b < 18446744073709551616) : (18446744073709551615 - b).testBit i = (decide (i < 64) && !b.testBit i) := by
  have := Nat.testBit_two_pow_sub_succ (n := 64) (x := b) (by simpa using hb) i
  rw [← this]
  congr 1
  omega

theorem tb_big (a i : Nat) (ha : a < 18446744073709551616) (hi : 64 ≤ i) : a.testBit i = false := by
  apply Nat.testBit_lt_two_pow
  calc a < 2 ^ 64 := by simpa using ha
    _ ≤ 2 ^ i := Nat.pow_le_pow_right (by decide) hi

theorem flows_iff (a b : Nat) : flowsB a b = true ↔ ∀ i, a.testBit i = true → b.testBit i = true := by
  unfold flowsB
  rw [beq_iff_eq]
  constructor
  · intro h i hi
    have := congrArg (fun x => x.testBit i) h
    simp [Nat.testBit_and, hi] at this
    exact this
  · intro h
    apply Nat.eq_of_testBit_eq
    intro i
    rw [Nat.testBit_and]
    cases hi : a.testBit i
    · rfl
    · simp [h i hi]

theorem flows_andNot (a b : Nat) (ha : a < 18446744073709551616) (hb : b < 18446744073709551616) :
    ((a &&& (18446744073709551615 - b)) == 0) = flowsB a b := by
  rw [Bool.eq_iff_iff, flows_iff, beq_iff_eq]
  constructor
  · intro h i hi
    have := congrArg (fun x => x.testBit i) h
    simp only [Nat.testBit_and, hi, andNot_tb b i hb, Nat.zero_testBit, Bool.true_and] at this
    by_cases h64 : i < 64
    · simpa [h64] using this
    · rw [tb_big a i ha (by omega)] at hi; cases hi
  · intro h
    apply Nat.eq_of_testBit_eq
    intro i
    rw [Nat.testBit_and, andNot_tb b i hb, Nat.zero_testBit]
    cases hi : a.testBit i
    · rfl
    · simp [h i hi]

theorem flows_self (a : Nat) : flowsB a a = true := by rw [flows_iff]; exact fun _ h => h
theorem flows_trans {a b c : Nat} (h : flowsB a b = true) (h' : flowsB b c = true) : flowsB a c = true := by
  rw [flows_iff] at *; exact fun i hi => h' i (h i hi)
theorem flows_le {a b : Nat} (h : flowsB a b = true) : a ≤ b := by
  unfold flowsB at h
  rw [beq_iff_eq] at h
  rw [← h]; exact Nat.and_le_right

/-- The label of one secret. -/
def onlyN (n : Nat) : Nat := 2 ^ n
theorem onlyN_lt (n : Nat) (h : n < 64) : onlyN n < 18446744073709551616 := by
  have : (2 : Nat) ^ n < 2 ^ 64 := Nat.pow_lt_pow_right (by decide) h
  unfold onlyN
  simpa using this

theorem has_and (a n : Nat) : (!((a &&& onlyN n : Nat) == 0)) = a.testBit n := by
  unfold onlyN
  rw [nat_bit, Nat.testBit_eq_decide_div_mod_eq]
  have hp : 0 < 2 ^ n := Nat.two_pow_pos n
  rcases Nat.mod_two_eq_zero_or_one (a / 2 ^ n) with h | h <;> simp [h] <;> omega

/-- Is there a partition i? -/
def inT (c : List Nat) (i : Int) : Bool := decide (0 ≤ i) && decide (i < c.length)

/-- Does the partition i flow to j? -/
def tflows (c : List Nat) (i j : Int) : Bool := inT c i && inT c j && flowsB (c.getD i.toNat 0) (c.getD j.toNat 0)

/-- Of the first k partitions those that flow to a label. -/
def downTo (c : List Nat) (a : Nat) : Nat → List Nat
  | 0 => []
  | k + 1 => if flowsB (c.getD k 0) a then downTo c a k ++ [k] else downTo c a k

/-- Of the first k partitions those to which i flows. -/
def upTo (c : List Nat) (i : Int) : Nat → List Nat
  | 0 => []
  | k + 1 => if tflows c i (k : Nat) then upTo c i k ++ [k] else upTo c i k

theorem downTo_len (c : List Nat) (a k : Nat) : (downTo c a k).length ≤ k := by
  induction k with
  | zero => simp [downTo]
  | succ k ih =>
    simp only [downTo]
    split
    · rw [List.length_append]; simp only [List.length_singleton]; omega
    · omega
theorem upTo_len (c : List Nat) (i : Int) (k : Nat) : (upTo c i k).length ≤ k := by
  induction k with
  | zero => simp [upTo]
  | succ k ih =>
    simp only [upTo]
    split
    · rw [List.length_append]; simp only [List.length_singleton]; omega
    · omega

theorem downTo_mem (c : List Nat) (a k n : Nat) : n ∈ downTo c a k ↔ n < k ∧ flowsB (c.getD n 0) a = true := by
  induction k with
  | zero => simp [downTo]
  | succ k ih =>
    simp only [downTo]
    split
    · rename_i h
      simp only [List.mem_append, ih, List.mem_singleton]
      constructor
      · rintro (⟨h1, h2⟩ | rfl)
        · exact ⟨by omega, h2⟩
        · exact ⟨by omega, h⟩
      · rintro ⟨h1, h2⟩
        by_cases e : n = k
        · exact .inr e
        · exact .inl ⟨by omega, h2⟩
    · rename_i h
      rw [ih]
      constructor
      · rintro ⟨h1, h2⟩; exact ⟨by omega, h2⟩
      · rintro ⟨h1, h2⟩
        refine ⟨?_, h2⟩
        by_cases e : n = k
        · subst e; exact absurd h2 h
        · omega
theorem upTo_mem (c : List Nat) (i : Int) (k n : Nat) : n ∈ upTo c i k ↔ n < k ∧ tflows c i (n : Nat) = true := by
  induction k with
  | zero => simp [upTo]
  | succ k ih =>
    simp only [upTo]
    split
    · rename_i h
      simp only [List.mem_append, ih, List.mem_singleton]
      constructor
      · rintro (⟨h1, h2⟩ | rfl)
        · exact ⟨by omega, h2⟩
        · exact ⟨by omega, h⟩
      · rintro ⟨h1, h2⟩
        by_cases e : n = k
        · exact .inr e
        · exact .inl ⟨by omega, h2⟩
    · rename_i h
      rw [ih]
      constructor
      · rintro ⟨h1, h2⟩; exact ⟨by omega, h2⟩
      · rintro ⟨h1, h2⟩
        refine ⟨?_, h2⟩
        by_cases e : n = k
        · subst e; exact absurd h2 h
        · omega

/-- Who has a label, of the first k: the map as it reads. -/
def tabMap (c : List Nat) : Nat → DataW Unit
  | 0 => .map []
  | k + 1 => (tabMap c k).put (.int .u64 (c.getD k 0 : Nat)) (.lit (.int .i64 (k : Nat)))

/-- The last of the first k that has a label. -/
def lastIx (c : List Nat) (a : Nat) : Nat → Option Nat
  | 0 => none
  | k + 1 => if c.getD k 0 = a then some k else lastIx c a k

theorem tabMap_isMap (c : List Nat) (k : Nat) : IsMap (tabMap c k) := by
  induction k with
  | zero => exact isMap_empty
  | succ k ih => exact ih.put _ _

theorem tabMap_has (c : List Nat) (a k : Nat) : Maps.has (tabMap c k) (.int .u64 (a : Nat)) = (lastIx c a k).isSome := by
  induction k with
  | zero => rfl
  | succ k ih =>
    simp only [tabMap, lastIx]
    by_cases h : c.getD k 0 = a
    · rw [if_pos h, h]; exact has_put_same (tabMap_isMap c k) (by trivial) _
    · rw [if_neg h, has_put_other, ih]
      intro e
      injection e with _ e
      exact h (by omega)

theorem tabMap_at (c : List Nat) (a k : Nat) : (tabMap c k).atKey (.int .u64 (a : Nat)) (.lit (.int .i64 0)) = .lit (.int .i64 ((lastIx c a k).getD 0 : Nat)) := by
  induction k with
  | zero => rfl
  | succ k ih =>
    simp only [tabMap, lastIx]
    by_cases h : c.getD k 0 = a
    · rw [if_pos h, h]; exact atKey_put_same (tabMap_isMap c k) (by trivial) _ _
    · rw [if_neg h, atKey_put_other, ih]
      intro e
      injection e with _ e
      exact h (by omega)

/-- What is wrong with a list of labels, from the place i on (m places are left), and where. -/
def mayFrom (l : List Nat) : Nat → Nat → Nat × Nat
  | 0, _ => (0, 0)
  | m + 1, i => if l.getD i 0 = l.getD (i - 1) 0 then (8, i) else if l.getD i 0 < l.getD (i - 1) 0 then (7, i) else mayFrom l m (i + 1)
def mayL (l : List Nat) : Nat × Nat := if l.length = 0 then (1, 0) else if 8 < l.length then (3, 8) else mayFrom l (l.length - 1) 1

end Go.Proofs.Ytaikeeidjfcijaa
