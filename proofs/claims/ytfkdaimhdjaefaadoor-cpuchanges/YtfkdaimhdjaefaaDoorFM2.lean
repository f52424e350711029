/- Binary64: words as signs and rungs; what a rung is worth. -/
import Derived.Test.YtfkdaimhdjaefaaDoorFM1
namespace Go.Proofs.YtfkdaimhdjaefaaDoor.Flt
open Ieee

def magOf (r : Nat) : Nat := if r < 2 ^ 52 then r else 2 ^ 52 + r % 2 ^ 52
def expOf (r : Nat) : Nat := if r < 2 ^ 52 then 0 else r / 2 ^ 52 - 1
/-- The rung's worth, in units of 2^-1074. -/
def V (r : Nat) : Nat := magOf r * 2 ^ expOf r
def negOf (x : Nat) : Bool := x / 2 ^ 63 % 2 == 1
def rungOf (x : Nat) : Nat := x % 2 ^ 63

theorem read_eq (x : Nat) : double.read x =
    if rungOf x < 2047 * 2 ^ 52 then .number (negOf x) (magOf (rungOf x)) (-1074 + expOf (rungOf x))
    else if rungOf x = 2047 * 2 ^ 52 then .infinity (negOf x) else .nan (negOf x) (rungOf x - 2047 * 2 ^ 52) := by
  have hs : double.signWeight = 2 ^ 63 := rfl
  have hb : double.binade = 2 ^ 52 := rfl
  have hi : double.infRung = 2047 * 2 ^ 52 := by decide
  have hl : double.leastPlace = -1074 := by decide
  unfold Format.read
  simp only [hs, hb, hi, hl]
  change (if rungOf x < 2 ^ 52 then Datum.number (negOf x) (rungOf x) (-1074) else if rungOf x < 2047 * 2 ^ 52 then Datum.number (negOf x) (2 ^ 52 + rungOf x % 2 ^ 52) (-1074 + ((rungOf x / 2 ^ 52 - 1 : Nat) : Int)) else if rungOf x = 2047 * 2 ^ 52 then Datum.infinity (negOf x) else Datum.nan (negOf x) (rungOf x - 2047 * 2 ^ 52)) = _
  by_cases h1 : rungOf x < 2 ^ 52
  · have h2 : rungOf x < 2047 * 2 ^ 52 := by omega
    rw [if_pos h1, if_pos h2]
    simp [magOf, expOf, h1]
  · rw [if_neg h1]
    by_cases h2 : rungOf x < 2047 * 2 ^ 52
    · rw [if_pos h2, if_pos h2]
      simp only [magOf, expOf, if_neg h1]
    · rw [if_neg h2, if_neg h2]

theorem word_eq (neg : Bool) (r : Nat) : double.word neg r = if neg then 2 ^ 63 + r else r := rfl

theorem negOf_word (neg : Bool) (r : Nat) (h : r < 2 ^ 63) : negOf (double.word neg r) = neg := by
  rw [word_eq]; unfold negOf
  cases neg
  · have : r / 2 ^ 63 = 0 := Nat.div_eq_of_lt h
    simp [this]
  · have : (2 ^ 63 + r) / 2 ^ 63 = 1 := by omega
    simp [this]

theorem rungOf_word (neg : Bool) (r : Nat) (h : r < 2 ^ 63) : rungOf (double.word neg r) = r := by
  rw [word_eq]; unfold rungOf
  cases neg
  · exact Nat.mod_eq_of_lt h
  · simp only [if_true]; omega

theorem word_of (x : Nat) (h : x < 2 ^ 64) : double.word (negOf x) (rungOf x) = x := by
  rw [word_eq]; unfold negOf rungOf
  by_cases hx : x < 2 ^ 63
  · have h1 : x / 2 ^ 63 = 0 := Nat.div_eq_of_lt hx
    simp only [h1]
    exact Nat.mod_eq_of_lt hx
  · have h1 : x / 2 ^ 63 = 1 := by omega
    simp only [h1]
    have : ((1 % 2 == 1) = true) := rfl
    rw [if_pos this]; omega

theorem rungOf_lt (x : Nat) : rungOf x < 2 ^ 63 := Nat.mod_lt _ (by decide)

theorem rn_le (A B : Nat) : rn A B ≤ 2047 * 2 ^ 52 := by
  unfold rn
  split
  · omega
  · exact Nat.min_le_right _ _

theorem rn_lt (A B : Nat) : rn A B < 2 ^ 63 := by have := rn_le A B; omega

/-- k 2^t, packed. -/
theorem V_pack (t k : Nat) (h1 : k ≤ 2 ^ 53) (h2 : t = 0 ∨ 2 ^ 52 ≤ k) : V (t * 2 ^ 52 + k) = k * 2 ^ t := by
  unfold V magOf expOf
  by_cases h : k < 2 ^ 52
  · have ht : t = 0 := by omega
    subst ht
    simp [h]
  · by_cases hk : k = 2 ^ 53
    · subst hk
      have a : ¬ (t * 2 ^ 52 + 2 ^ 53 < 2 ^ 52) := by omega
      have b : (t * 2 ^ 52 + 2 ^ 53) / 2 ^ 52 - 1 = t + 1 := by omega
      have c : (t * 2 ^ 52 + 2 ^ 53) % 2 ^ 52 = 0 := by omega
      rw [if_neg a, if_neg a, b, c, pow_add' t 1]
      rw [Nat.add_zero, Nat.mul_comm (2 ^ t), ← Nat.mul_assoc]
    · have a : ¬ (t * 2 ^ 52 + k < 2 ^ 52) := by omega
      have b : (t * 2 ^ 52 + k) / 2 ^ 52 - 1 = t := by omega
      have c : 2 ^ 52 + (t * 2 ^ 52 + k) % 2 ^ 52 = k := by omega
      rw [if_neg a, if_neg a, b, c]

/-- Every rung is packed so. -/
theorem rung_pack (r : Nat) : r = expOf r * 2 ^ 52 + magOf r ∧ magOf r < 2 ^ 53 ∧ (expOf r = 0 ∨ 2 ^ 52 ≤ magOf r) := by
  unfold magOf expOf
  split <;> omega

theorem V_zero : V 0 = 0 := by decide

theorem V_pos (r : Nat) (h : 0 < r) : 0 < V r := by
  obtain ⟨a, b, c⟩ := rung_pack r
  unfold V
  exact Nat.mul_pos (by omega) (Nat.two_pow_pos _)

theorem log2_mid (m : Nat) (h1 : 2 ^ 52 ≤ m) (h2 : m < 2 ^ 53) : m.log2 = 52 := (Nat.log2_eq_iff (by omega)).2 ⟨h1, h2⟩

theorem log2_lt53 (m : Nat) (h2 : m < 2 ^ 53) : m.log2 ≤ 52 := by
  by_cases h0 : m = 0
  · subst h0; decide
  · have := (Nat.log2_lt (n := m) (k := 53) h0).2 h2
    omega

theorem rn_exact (r : Nat) (h : r ≤ 2047 * 2 ^ 52) : rn (V r) 1 = r := by
  obtain ⟨a, b, c⟩ := rung_pack r
  by_cases h0 : r = 0
  · subst h0; decide
  · have hv : V r ≠ 0 := by have := V_pos r (by omega); omega
    unfold rn
    rw [if_neg hv, Nat.div_one, Nat.one_mul]
    have hl : (V r).log2 - 52 = expOf r := by
      unfold V
      rw [log2_mul_pow _ _ (by omega)]
      rcases c with c | c
      · rw [c]; have := log2_lt53 _ b; omega
      · rw [log2_mid _ c b]; omega
    rw [hl]
    have : rhe (V r) (2 ^ expOf r) = magOf r := rhe_exact _ _ (Nat.two_pow_pos _)
    rw [this, ← a]
    exact Nat.min_eq_left h

theorem rhe_mono (a b g : Nat) (_hg : 0 < g) (h : a ≤ b) : rhe a g ≤ rhe b g := by
  unfold rhe
  by_cases hq : a / g = b / g
  · rw [hq]
    have ha := Nat.div_add_mod a g
    have hb := Nat.div_add_mod b g
    rw [hq] at ha
    have hm : a % g ≤ b % g := by omega
    cases h1 : (decide (g < 2 * (a % g)) || (g == 2 * (a % g) && b / g % 2 == 1))
    · simp
    · have : (decide (g < 2 * (b % g)) || (g == 2 * (b % g) && b / g % 2 == 1)) = true := by
        simp only [Bool.or_eq_true, decide_eq_true_eq, Bool.and_eq_true, beq_iff_eq] at h1 ⊢
        rcases h1 with h1 | ⟨h1, h2⟩
        · left; omega
        · by_cases hx : a % g = b % g
          · right; exact ⟨by omega, h2⟩
          · left; omega
      rw [this]; exact Nat.le_refl _
  · have hle : a / g ≤ b / g := Nat.div_le_div_right h
    have h1 : (decide (g < 2 * (a % g)) || (g == 2 * (a % g) && a / g % 2 == 1)).toNat ≤ 1 := by
      cases (decide (g < 2 * (a % g)) || (g == 2 * (a % g) && a / g % 2 == 1)) <;> simp
    omega

theorem rhe_le (a c g : Nat) (hg : 0 < g) (h : a ≤ c * g) : rhe a g ≤ c := by
  have := rhe_mono a (c * g) g hg h
  rw [rhe_exact _ _ hg] at this
  exact this

theorem le_rhe (a c g : Nat) (hg : 0 < g) (h : c * g ≤ a) : c ≤ rhe a g := by
  have := rhe_mono (c * g) a g hg h
  rw [rhe_exact _ _ hg] at this
  exact this

/-- A whole number rounded: what is kept is at most 2^53, at least 2^52 where something may be dropped. -/
theorem kept_bounds (A : Nat) : rhe A (2 ^ (A.log2 - 52)) ≤ 2 ^ 53 ∧ (A.log2 - 52 = 0 ∨ 2 ^ 52 ≤ rhe A (2 ^ (A.log2 - 52))) := by
  constructor
  · apply rhe_le _ _ _ (Nat.two_pow_pos _)
    have h : A < 2 ^ (A.log2 + 1) := Nat.lt_log2_self
    have h2 : 2 ^ (A.log2 + 1) ≤ 2 ^ 53 * 2 ^ (A.log2 - 52) := by
      rw [← pow_add']; exact Nat.pow_le_pow_right (by decide) (by omega)
    omega
  · by_cases h0 : A.log2 - 52 = 0
    · exact Or.inl h0
    · right
      apply le_rhe _ _ _ (Nat.two_pow_pos _)
      have ha : A ≠ 0 := by intro h; subst h; exact h0 (by decide)
      have h := Nat.log2_self_le ha
      rw [← pow_add']
      have : 52 + (A.log2 - 52) = A.log2 := by omega
      rw [this]; exact h

theorem rn_mono1 (A A' : Nat) (h : A ≤ A') : rn A 1 ≤ rn A' 1 := by
  by_cases h0 : A = 0
  · subst h0; rw [rn_zero]; exact Nat.zero_le _
  · have h0' : A' ≠ 0 := by omega
    unfold rn
    rw [if_neg h0, if_neg h0']
    simp only [Nat.div_one, Nat.one_mul]
    have hlog : A.log2 ≤ A'.log2 := by
      rcases Nat.lt_or_ge A'.log2 A.log2 with h1 | h1
      · exfalso
        have a1 := Nat.log2_self_le h0
        have a2 : A' < 2 ^ (A'.log2 + 1) := Nat.lt_log2_self
        have a3 : 2 ^ (A'.log2 + 1) ≤ 2 ^ A.log2 := Nat.pow_le_pow_right (by decide) (by omega)
        omega
      · exact h1
    obtain ⟨k1, -⟩ := kept_bounds A
    obtain ⟨-, k2⟩ := kept_bounds A'
    have key : (A.log2 - 52) * 2 ^ 52 + rhe A (2 ^ (A.log2 - 52)) ≤ (A'.log2 - 52) * 2 ^ 52 + rhe A' (2 ^ (A'.log2 - 52)) := by
      by_cases he : A.log2 - 52 = A'.log2 - 52
      · rw [he]
        have := rhe_mono A A' (2 ^ (A'.log2 - 52)) (Nat.two_pow_pos _) h
        omega
      · rcases k2 with k2 | k2
        · omega
        · omega
    omega

/-- What is above nothing is rounded above nothing. -/
theorem rn_pos (A : Nat) (h : 0 < A) : 0 < rn A 1 := by
  have h1 := rn_mono1 1 A h
  have : rn 1 1 = 1 := by decide
  omega

/-- V rises. -/
theorem V_lt (a b : Nat) (h : a < b) : V a < V b := by
  obtain ⟨a1, a2, a3⟩ := rung_pack a
  obtain ⟨b1, b2, b3⟩ := rung_pack b
  unfold V
  by_cases he : expOf a = expOf b
  · rw [he]
    exact Nat.mul_lt_mul_of_pos_right (by omega) (Nat.two_pow_pos _)
  · have hlt : expOf a < expOf b := by omega
    have h1 : magOf a * 2 ^ expOf a < 2 ^ 53 * 2 ^ expOf a := Nat.mul_lt_mul_of_pos_right a2 (Nat.two_pow_pos _)
    have h2 : 2 ^ 53 * 2 ^ expOf a ≤ 2 ^ 52 * 2 ^ expOf b := by
      rw [← pow_add', ← pow_add']
      exact Nat.pow_le_pow_right (by decide) (by omega)
    have h3 : 2 ^ 52 * 2 ^ expOf b ≤ magOf b * 2 ^ expOf b := Nat.mul_le_mul_right _ (by omega)
    omega

theorem V_lt_iff (a b : Nat) : V a < V b ↔ a < b := by
  constructor
  · intro h
    rcases Nat.lt_or_ge a b with h1 | h1
    · exact h1
    · rcases Nat.lt_or_eq_of_le h1 with h2 | h2
      · have := V_lt b a h2; omega
      · subst h2; omega
  · exact V_lt a b

theorem V_inj (a b : Nat) (h : V a = V b) : a = b := by
  rcases Nat.lt_trichotomy a b with h1 | h1 | h1
  · have := V_lt a b h1; omega
  · exact h1
  · have := V_lt b a h1; omega
end Go.Proofs.YtfkdaimhdjaefaaDoor.Flt
