/- Binary64: what a rung is worth, and rounding to a rung, over whole numbers. -/
import Derived.Laws.FloatArith
namespace Go.Proofs.YtfkdaimhdjaefaaDoor.Flt
open Ieee

/-- Half to even of n / g. -/
def rhe (n g : Nat) : Nat := n / g + (decide (g < 2 * (n % g)) || (g == 2 * (n % g) && n / g % 2 == 1)).toNat

theorem rhe_scale (n g c : Nat) (hc : 0 < c) : rhe (n * c) (g * c) = rhe n g := by
  unfold rhe
  rw [Nat.mul_div_mul_right n g hc, Nat.mul_mod_mul_right]
  congr 1
  have h1 : decide (g * c < 2 * (n % g * c)) = decide (g < 2 * (n % g)) := by
    rw [← Nat.mul_assoc]
    exact decide_eq_decide.2 (Nat.mul_lt_mul_right hc)
  have h2 : (g * c == 2 * (n % g * c)) = (g == 2 * (n % g)) := by
    rw [← Nat.mul_assoc, Bool.eq_iff_iff, beq_iff_eq, beq_iff_eq]
    exact ⟨fun h => Nat.eq_of_mul_eq_mul_right hc h, fun h => by rw [← h]⟩
  rw [h1, h2]

theorem rhe_one (n : Nat) : rhe n 1 = n := by
  unfold rhe
  simp [Nat.mod_one]

theorem rhe_exact (n g : Nat) (hg : 0 < g) : rhe (n * g) g = n := by
  have := rhe_scale n 1 g hg
  rw [Nat.one_mul] at this
  rw [this, rhe_one]

theorem rhe_small (n g : Nat) (h : 2 * n < g) : rhe n g = 0 := by
  unfold rhe
  have h1 : n / g = 0 := Nat.div_eq_of_lt (by omega)
  have h2 : n % g = n := Nat.mod_eq_of_lt (by omega)
  rw [h1, h2]
  have h3 : decide (g < 2 * n) = false := by simp; omega
  have h4 : (g == 2 * n) = false := by simp; omega
  rw [h3, h4]; rfl

theorem cut_even (neg : Bool) (n d : Nat) : Toward.even.cut neg n d = rhe n (2 ^ d) := by
  unfold Toward.cut
  by_cases h : d ≤ n.log2 + 2
  · simp only [Nat.min_eq_left h, Nat.one_shiftLeft]
    rfl
  · have hl : n < 2 ^ (n.log2 + 1) := Nat.lt_log2_self
    have h1 : min d (n.log2 + 2) = n.log2 + 2 := Nat.min_eq_right (by omega)
    have hp : 2 ^ (n.log2 + 2) = 2 * 2 ^ (n.log2 + 1) := by rw [Nat.pow_succ 2 (n.log2 + 1), Nat.mul_comm]
    have hs : 2 * n < 2 ^ d := by
      have : 2 ^ (n.log2 + 2) ≤ 2 ^ d := Nat.pow_le_pow_right (by decide) (by omega)
      omega
    rw [rhe_small n _ hs]
    simp only [h1, Nat.one_shiftLeft]
    exact rhe_small n _ (by omega)

/-- The rung nearest to A / B. -/
def rn (A B : Nat) : Nat :=
  if A = 0 then 0 else min (((A / B).log2 - 52) * 2 ^ 52 + rhe A (B * 2 ^ ((A / B).log2 - 52))) (2047 * 2 ^ 52)

theorem rn_zero (B : Nat) : rn 0 B = 0 := rfl

theorem rn_scale (A B c : Nat) (hc : 0 < c) : rn (A * c) (B * c) = rn A B := by
  unfold rn
  have e : (A * c = 0) = (A = 0) := by
    apply propext
    constructor
    · intro h
      rcases Nat.mul_eq_zero.1 h with h | h
      · exact h
      · omega
    · intro h; rw [h, Nat.zero_mul]
  simp only [e, Nat.mul_div_mul_right A B hc]
  rw [Nat.mul_right_comm B c, rhe_scale _ _ _ hc]

theorem pow_add' (a b : Nat) : 2 ^ (a + b) = 2 ^ a * 2 ^ b := Nat.pow_add 2 a b

theorem log2_mul_pow (m k : Nat) (h : m ≠ 0) : (m * 2 ^ k).log2 = m.log2 + k := by
  have hp : 0 < 2 ^ k := Nat.two_pow_pos k
  have h0 : m * 2 ^ k ≠ 0 := Nat.mul_ne_zero h (by omega)
  refine (Nat.log2_eq_iff h0).2 ⟨?_, ?_⟩
  · rw [pow_add']; exact Nat.mul_le_mul_right _ (Nat.log2_self_le h)
  · have : m.log2 + k + 1 = (m.log2 + 1) + k := by omega
    rw [this, pow_add']
    exact Nat.mul_lt_mul_of_pos_right Nat.lt_log2_self hp

/-- m / 2^k: its logarithm. -/
theorem log2_div_pow (m k : Nat) (h : k ≤ m.log2) (h0 : m ≠ 0) : (m / 2 ^ k).log2 = m.log2 - k := by
  have hp : 0 < 2 ^ k := Nat.two_pow_pos k
  have e : m.log2 = (m.log2 - k) + k := by omega
  have hlo : 2 ^ (m.log2 - k) ≤ m / 2 ^ k := by
    rw [Nat.le_div_iff_mul_le hp, ← pow_add', ← e]
    exact Nat.log2_self_le h0
  have hn : m / 2 ^ k ≠ 0 := by have := Nat.two_pow_pos (m.log2 - k); omega
  refine (Nat.log2_eq_iff hn).2 ⟨hlo, ?_⟩
  rw [Nat.div_lt_iff_lt_mul hp, ← pow_add']
  have : m.log2 - k + 1 + k = m.log2 + 1 := by omega
  rw [this]
  exact Nat.lt_log2_self

theorem nearest_rn (neg : Bool) (mag : Nat) (place : Int) :
    double.nearest neg mag place = double.word neg (rn (mag * 2 ^ (place + 1074).toNat) (2 ^ (-(place + 1074)).toNat)) := by
  unfold Format.nearest
  by_cases h0 : mag = 0
  · subst h0; rw [if_pos rfl, Nat.zero_mul]; rfl
  · rw [if_neg h0]
    have hp : mag * 2 ^ (place + 1074).toNat ≠ 0 := Nat.mul_ne_zero h0 (by have := Nat.two_pow_pos (place + 1074).toNat; omega)
    unfold rn
    rw [if_neg hp]
    have hl : double.leastPlace = -1074 := by decide
    have hf : double.fractionBits = 52 := rfl
    have hb : double.binade = 2 ^ 52 := rfl
    have hi : double.infRung = 2047 * 2 ^ 52 := by decide
    simp only [hl, hf, hb, hi, cut_even]
    have key : ∀ T : Nat, (max (place + (mag.log2 : Int) - (52 : Nat)) (-1074) - -1074).toNat = T →
        ((mag * 2 ^ (place + 1074).toNat) / (2 ^ (-(place + 1074)).toNat)).log2 - 52 = T ∧
        rhe (mag <<< (place - max (place + (mag.log2 : Int) - (52 : Nat)) (-1074)).toNat) (2 ^ (max (place + (mag.log2 : Int) - (52 : Nat)) (-1074) - place).toNat) =
        rhe (mag * 2 ^ (place + 1074).toNat) (2 ^ (-(place + 1074)).toNat * 2 ^ T) := by
      intro T hT
      obtain ⟨L, hL⟩ : ∃ L, L = max (place + (mag.log2 : Int) - (52 : Nat)) (-1074) := ⟨_, rfl⟩
      rw [← hL] at hT ⊢
      have hLT : L = (T : Int) - 1074 := by omega
      constructor
      · by_cases hz : 0 ≤ place + 1074
        · have : (-(place + 1074)).toNat = 0 := by omega
          rw [this, Nat.pow_zero, Nat.div_one, log2_mul_pow _ _ h0]
          omega
        · have : (place + 1074).toNat = 0 := by omega
          rw [this, Nat.pow_zero, Nat.mul_one]
          by_cases hk : (-(place + 1074)).toNat ≤ mag.log2
          · rw [log2_div_pow _ _ hk h0]; omega
          · have hlt : mag / 2 ^ (-(place + 1074)).toNat = 0 := by
              apply Nat.div_eq_of_lt
              have h1 : mag < 2 ^ (mag.log2 + 1) := Nat.lt_log2_self
              have h2 : 2 ^ (mag.log2 + 1) ≤ 2 ^ (-(place + 1074)).toNat := Nat.pow_le_pow_right (by decide) (by omega)
              omega
            rw [hlt]
            have : Nat.log2 0 = 0 := by decide
            rw [this]; omega
      · rw [Nat.shiftLeft_eq, ← pow_add']
        obtain ⟨a, ha⟩ : ∃ a, a = (place + 1074).toNat := ⟨_, rfl⟩
        obtain ⟨b, hb⟩ : ∃ b, b = (-(place + 1074)).toNat := ⟨_, rfl⟩
        obtain ⟨u, hu⟩ : ∃ u, u = (place - L).toNat := ⟨_, rfl⟩
        obtain ⟨d, hd⟩ : ∃ d, d = (L - place).toNat := ⟨_, rfl⟩
        rw [← ha, ← hb, ← hu, ← hd]
        -- u + (b + T) = a + d
        have hs : u + (b + T) = a + d := by omega
        by_cases hud : u = 0
        · have : a + (d - (b + T)) + 0 = a + (d - (b + T)) := rfl
          subst hud
          rw [Nat.pow_zero, Nat.mul_one]
          have h3 : b + T = d + a := by omega
          rw [h3, pow_add' d a, rhe_scale _ _ _ (Nat.two_pow_pos a)]
        · have hd0 : d = 0 := by omega
          subst hd0
          have h3 : a = u + (b + T) := by omega
          rw [h3, pow_add' u (b + T), ← Nat.mul_assoc, Nat.pow_zero, rhe_one, rhe_exact _ _ (Nat.two_pow_pos (b + T))]
    obtain ⟨k1, k2⟩ := key _ rfl
    rw [k1, k2]
end Go.Proofs.YtfkdaimhdjaefaaDoor.Flt

/- Binary64: words as signs and rungs; what a rung is worth. -/
namespace Go.Proofs.YtfkdaimhdjaefaaDoor.Flt
open Ieee

def magOf (r : Nat) : Nat := if r < 2 ^ 52 then r else 2 ^ 52 + r % 2 ^ 52
def expOf (r : Nat) : Nat := if r < 2 ^ 52 then 0 else r / 2 ^ 52 - 1
/-- The rung's worth, in units of 2^-1074. -/
def V (r : Nat) : Nat := magOf r * 2 ^ expOf r
def negOf (x : Nat) : Bool := x / 2 ^ 63 % 2 == 1
def rungOf (x : Nat) : Nat := x % 2 ^ 63

theorem read_eq (x : Nat) : double.read x =
    if rungOf x < 2047 * 2 ^ 52 then .number (negOf x) (magOf (rungOf x)) (-1074 + expOf (rungOf x))
    else if rungOf x = 2047 * 2 ^ 52 then .infinity (negOf x) else .nan (negOf x) (rungOf x - 2047 * 2 ^ 52) := by
  have hs : double.signWeight = 2 ^ 63 := rfl
  have hb : double.binade = 2 ^ 52 := rfl
  have hi : double.infRung = 2047 * 2 ^ 52 := by decide
  have hl : double.leastPlace = -1074 := by decide
  unfold Format.read
  simp only [hs, hb, hi, hl]
  change (if rungOf x < 2 ^ 52 then Datum.number (negOf x) (rungOf x) (-1074) else if rungOf x < 2047 * 2 ^ 52 then Datum.number (negOf x) (2 ^ 52 + rungOf x % 2 ^ 52) (-1074 + ((rungOf x / 2 ^ 52 - 1 : Nat) : Int)) else if rungOf x = 2047 * 2 ^ 52 then Datum.infinity (negOf x) else Datum.nan (negOf x) (rungOf x - 2047 * 2 ^ 52)) = _
  by_cases h1 : rungOf x < 2 ^ 52
  · have h2 : rungOf x < 2047 * 2 ^ 52 := by omega
    rw [if_pos h1, if_pos h2]
    simp [magOf, expOf, h1]
  · rw [if_neg h1]
    by_cases h2 : rungOf x < 2047 * 2 ^ 52
    · rw [if_pos h2, if_pos h2]
      simp only [magOf, expOf, if_neg h1]
    · rw [if_neg h2, if_neg h2]

theorem word_eq (neg : Bool) (r : Nat) : double.word neg r = if neg then 2 ^ 63 + r else r := rfl

theorem negOf_word (neg : Bool) (r : Nat) (h : r < 2 ^ 63) : negOf (double.word neg r) = neg := by
  rw [word_eq]; unfold negOf
  cases neg
  · have : r / 2 ^ 63 = 0 := Nat.div_eq_of_lt h
    simp [this]
  · have : (2 ^ 63 + r) / 2 ^ 63 = 1 := by omega
    simp [this]

theorem rungOf_word (neg : Bool) (r : Nat) (h : r < 2 ^ 63) : rungOf (double.word neg r) = r := by
  rw [word_eq]; unfold rungOf
  cases neg
  · exact Nat.mod_eq_of_lt h
  · simp only [if_true]; omega

theorem word_of (x : Nat) (h : x < 2 ^ 64) : double.word (negOf x) (rungOf x) = x := by
  rw [word_eq]; unfold negOf rungOf
  by_cases hx : x < 2 ^ 63
  · have h1 : x / 2 ^ 63 = 0 := Nat.div_eq_of_lt hx
    simp only [h1]
    exact Nat.mod_eq_of_lt hx
  · have h1 : x / 2 ^ 63 = 1 := by omega
    simp only [h1]
    have : ((1 % 2 == 1) = true) := rfl
    rw [if_pos this]; omega

theorem rungOf_lt (x : Nat) : rungOf x < 2 ^ 63 := Nat.mod_lt _ (by decide)

theorem rn_le (A B : Nat) : rn A B ≤ 2047 * 2 ^ 52 := by
  unfold rn
  split
  · omega
  · exact Nat.min_le_right _ _

theorem rn_lt (A B : Nat) : rn A B < 2 ^ 63 := by have := rn_le A B; omega

/-- k 2^t, packed. -/
theorem V_pack (t k : Nat) (h1 : k ≤ 2 ^ 53) (h2 : t = 0 ∨ 2 ^ 52 ≤ k) : V (t * 2 ^ 52 + k) = k * 2 ^ t := by
  unfold V magOf expOf
  by_cases h : k < 2 ^ 52
  · have ht : t = 0 := by omega
    subst ht
    simp [h]
  · by_cases hk : k = 2 ^ 53
    · subst hk
      have a : ¬ (t * 2 ^ 52 + 2 ^ 53 < 2 ^ 52) := by omega
      have b : (t * 2 ^ 52 + 2 ^ 53) / 2 ^ 52 - 1 = t + 1 := by omega
      have c : (t * 2 ^ 52 + 2 ^ 53) % 2 ^ 52 = 0 := by omega
      rw [if_neg a, if_neg a, b, c, pow_add' t 1]
      rw [Nat.add_zero, Nat.mul_comm (2 ^ t), ← Nat.mul_assoc]
    · have a : ¬ (t * 2 ^ 52 + k < 2 ^ 52) := by omega
      have b : (t * 2 ^ 52 + k) / 2 ^ 52 - 1 = t := by omega
      have c : 2 ^ 52 + (t * 2 ^ 52 + k) % 2 ^ 52 = k := by omega
      rw [if_neg a, if_neg a, b, c]

/-- Every rung is packed so. -/
theorem rung_pack (r : Nat) : r = expOf r * 2 ^ 52 + magOf r ∧ magOf r < 2 ^ 53 ∧ (expOf r = 0 ∨ 2 ^ 52 ≤ magOf r) := by
  unfold magOf expOf
  split <;> omega

theorem V_zero : V 0 = 0 := by decide

theorem V_pos (r : Nat) (h : 0 < r) : 0 < V r := by
  obtain ⟨a, b, c⟩ := rung_pack r
  unfold V
  exact Nat.mul_pos (by omega) (Nat.two_pow_pos _)

theorem log2_mid (m : Nat) (h1 : 2 ^ 52 ≤ m) (h2 : m < 2 ^ 53) : m.log2 = 52 := (Nat.log2_eq_iff (by omega)).2 ⟨h1, h2⟩

theorem log2_lt53 (m : Nat) (h2 : m < 2 ^ 53) : m.log2 ≤ 52 := by
  by_cases h0 : m = 0
  · subst h0; decide
  · have := (Nat.log2_lt (n := m) (k := 53) h0).2 h2
    omega

theorem rn_exact (r : Nat) (h : r ≤ 2047 * 2 ^ 52) : rn (V r) 1 = r := by
  obtain ⟨a, b, c⟩ := rung_pack r
  by_cases h0 : r = 0
  · subst h0; decide
  · have hv : V r ≠ 0 := by have := V_pos r (by omega); omega
    unfold rn
    rw [if_neg hv, Nat.div_one, Nat.one_mul]
    have hl : (V r).log2 - 52 = expOf r := by
      unfold V
      rw [log2_mul_pow _ _ (by omega)]
      rcases c with c | c
      · rw [c]; have := log2_lt53 _ b; omega
      · rw [log2_mid _ c b]; omega
    rw [hl]
    have : rhe (V r) (2 ^ expOf r) = magOf r := rhe_exact _ _ (Nat.two_pow_pos _)
    rw [this, ← a]
    exact Nat.min_eq_left h

theorem rhe_mono (a b g : Nat) (_hg : 0 < g) (h : a ≤ b) : rhe a g ≤ rhe b g := by
  unfold rhe
  by_cases hq : a / g = b / g
  · rw [hq]
    have ha := Nat.div_add_mod a g
    have hb := Nat.div_add_mod b g
    rw [hq] at ha
    have hm : a % g ≤ b % g := by omega
    cases h1 : (decide (g < 2 * (a % g)) || (g == 2 * (a % g) && b / g % 2 == 1))
    · simp
    · have : (decide (g < 2 * (b % g)) || (g == 2 * (b % g) && b / g % 2 == 1)) = true := by
        simp only [Bool.or_eq_true, decide_eq_true_eq, Bool.and_eq_true, beq_iff_eq] at h1 ⊢
        rcases h1 with h1 | ⟨h1, h2⟩
        · left; omega
        · by_cases hx : a % g = b % g
          · right; exact ⟨by omega, h2⟩
          · left; omega
      rw [this]; exact Nat.le_refl _
  · have hle : a / g ≤ b / g := Nat.div_le_div_right h
    have h1 : (decide (g < 2 * (a % g)) || (g == 2 * (a % g) && a / g % 2 == 1)).toNat ≤ 1 := by
      cases (decide (g < 2 * (a % g)) || (g == 2 * (a % g) && a / g % 2 == 1)) <;> simp
    omega

theorem rhe_le (a c g : Nat) (hg : 0 < g) (h : a ≤ c * g) : rhe a g ≤ c := by
  have := rhe_mono a (c * g) g hg h
  rw [rhe_exact _ _ hg] at this
  exact this

theorem le_rhe (a c g : Nat) (hg : 0 < g) (h : c * g ≤ a) : c ≤ rhe a g := by
  have := rhe_mono (c * g) a g hg h
  rw [rhe_exact _ _ hg] at this
  exact this

/-- A whole number rounded: what is kept is at most 2^53, at least 2^52 where something may be dropped. -/
theorem kept_bounds (A : Nat) : rhe A (2 ^ (A.log2 - 52)) ≤ 2 ^ 53 ∧ (A.log2 - 52 = 0 ∨ 2 ^ 52 ≤ rhe A (2 ^ (A.log2 - 52))) := by
  constructor
  · apply rhe_le _ _ _ (Nat.two_pow_pos _)
    have h : A < 2 ^ (A.log2 + 1) := Nat.lt_log2_self
    have h2 : 2 ^ (A.log2 + 1) ≤ 2 ^ 53 * 2 ^ (A.log2 - 52) := by
      rw [← pow_add']; exact Nat.pow_le_pow_right (by decide) (by omega)
    omega
  · by_cases h0 : A.log2 - 52 = 0
    · exact Or.inl h0
    · right
      apply le_rhe _ _ _ (Nat.two_pow_pos _)
      have ha : A ≠ 0 := by intro h; subst h; exact h0 (by decide)
      have h := Nat.log2_self_le ha
      rw [← pow_add']
      have : 52 + (A.log2 - 52) = A.log2 := by omega
      rw [this]; exact h

theorem rn_mono1 (A A' : Nat) (h : A ≤ A') : rn A 1 ≤ rn A' 1 := by
  by_cases h0 : A = 0
  · subst h0; rw [rn_zero]; exact Nat.zero_le _
  · have h0' : A' ≠ 0 := by omega
    unfold rn
    rw [if_neg h0, if_neg h0']
    simp only [Nat.div_one, Nat.one_mul]
    have hlog : A.log2 ≤ A'.log2 := by
      rcases Nat.lt_or_ge A'.log2 A.log2 with h1 | h1
      · exfalso
        have a1 := Nat.log2_self_le h0
        have a2 : A' < 2 ^ (A'.log2 + 1) := Nat.lt_log2_self
        have a3 : 2 ^ (A'.log2 + 1) ≤ 2 ^ A.log2 := Nat.pow_le_pow_right (by decide) (by omega)
        omega
      · exact h1
    obtain ⟨k1, -⟩ := kept_bounds A
    obtain ⟨-, k2⟩ := kept_bounds A'
    have key : (A.log2 - 52) * 2 ^ 52 + rhe A (2 ^ (A.log2 - 52)) ≤ (A'.log2 - 52) * 2 ^ 52 + rhe A' (2 ^ (A'.log2 - 52)) := by
      by_cases he : A.log2 - 52 = A'.log2 - 52
      · rw [he]
        have := rhe_mono A A' (2 ^ (A'.log2 - 52)) (Nat.two_pow_pos _) h
        omega
      · rcases k2 with k2 | k2
        · omega
        · omega
    omega

/-- What is above nothing is rounded above nothing. -/
theorem rn_pos (A : Nat) (h : 0 < A) : 0 < rn A 1 := by
  have h1 := rn_mono1 1 A h
  have : rn 1 1 = 1 := by decide
  omega

/-- V rises. -/
theorem V_lt (a b : Nat) (h : a < b) : V a < V b := by
  obtain ⟨a1, a2, a3⟩ := rung_pack a
  obtain ⟨b1, b2, b3⟩ := rung_pack b
  unfold V
  by_cases he : expOf a = expOf b
  · rw [he]
    exact Nat.mul_lt_mul_of_pos_right (by omega) (Nat.two_pow_pos _)
  · have hlt : expOf a < expOf b := by omega
    have h1 : magOf a * 2 ^ expOf a < 2 ^ 53 * 2 ^ expOf a := Nat.mul_lt_mul_of_pos_right a2 (Nat.two_pow_pos _)
    have h2 : 2 ^ 53 * 2 ^ expOf a ≤ 2 ^ 52 * 2 ^ expOf b := by
      rw [← pow_add', ← pow_add']
      exact Nat.pow_le_pow_right (by decide) (by omega)
    have h3 : 2 ^ 52 * 2 ^ expOf b ≤ magOf b * 2 ^ expOf b := Nat.mul_le_mul_right _ (by omega)
    omega

theorem V_lt_iff (a b : Nat) : V a < V b ↔ a < b := by
  constructor
  · intro h
    rcases Nat.lt_or_ge a b with h1 | h1
    · exact h1
    · rcases Nat.lt_or_eq_of_le h1 with h2 | h2
      · have := V_lt b a h2; omega
      · subst h2; omega
  · exact V_lt a b

theorem V_inj (a b : Nat) (h : V a = V b) : a = b := by
  rcases Nat.lt_trichotomy a b with h1 | h1 | h1
  · have := V_lt a b h1; omega
  · exact h1
  · have := V_lt b a h1; omega
end Go.Proofs.YtfkdaimhdjaefaaDoor.Flt

/- Binary64: order, sums, products, quotients in closed form. -/
namespace Go.Proofs.YtfkdaimhdjaefaaDoor.Flt
open Ieee

def INF : Nat := 2047 * 2 ^ 52
/-- Units of 2^-1074. -/
def unit : Nat := 1074
/-- The number that a word is, in units of 2^-1074; an infinity as the rung beyond the greatest. -/
def K (x : Nat) : Int := if negOf x then -(V (rungOf x) : Int) else (V (rungOf x) : Int)
def isN (x : Nat) : Bool := decide (INF < rungOf x)
def isFin (x : Nat) : Bool := decide (rungOf x < INF)

theorem read_fin (x : Nat) (h : rungOf x < INF) : double.read x = .number (negOf x) (magOf (rungOf x)) (-1074 + expOf (rungOf x)) := by
  rw [read_eq, if_pos (show rungOf x < 2047 * 2 ^ 52 from h)]
theorem read_inf (x : Nat) (h : rungOf x = INF) : double.read x = .infinity (negOf x) := by
  rw [read_eq, if_neg (by show ¬ (rungOf x < INF); omega), if_pos (show rungOf x = 2047 * 2 ^ 52 from h)]
theorem read_nan (x : Nat) (h : INF < rungOf x) : double.read x = .nan (negOf x) (rungOf x - INF) := by
  rw [read_eq, if_neg (by show ¬ (rungOf x < INF); omega), if_neg (by show ¬ (rungOf x = INF); omega)]; rfl

theorem signed_eq (s : Bool) (m up : Nat) : signed s m up = if s then -((m * 2 ^ up : Nat) : Int) else ((m * 2 ^ up : Nat) : Int) := by
  unfold signed; rw [Nat.shiftLeft_eq]

/-- A number of a word, by a lower place. -/
theorem signed_K (x : Nat) (b : Nat) (h : b ≤ expOf (rungOf x)) :
    signed (negOf x) (magOf (rungOf x)) (expOf (rungOf x) - b) * (2 ^ b : Nat) = K x := by
  rw [signed_eq]
  unfold K V
  have e : magOf (rungOf x) * 2 ^ (expOf (rungOf x) - b) * 2 ^ b = magOf (rungOf x) * 2 ^ expOf (rungOf x) := by
    rw [Nat.mul_assoc, ← pow_add']
    have : expOf (rungOf x) - b + b = expOf (rungOf x) := by omega
    rw [this]
  cases negOf x
  · simp only [Bool.false_eq_true, if_false]
    rw [← e]; simp
  · simp only [if_true]
    rw [← e]; simp [Int.neg_mul]

theorem min_place (e f : Nat) : min (-1074 + (e : Int)) (-1074 + (f : Int)) = -1074 + ((min e f : Nat) : Int) := by omega

theorem order_key (x y : Nat) (hx : rungOf x ≤ INF) (hy : rungOf y ≤ INF) : double.order x y = some (compare (K x) (K y)) := by
  unfold Format.order
  have hI := V_pos INF (by decide)
  rcases Nat.lt_or_eq_of_le hx with h1 | h1 <;> rcases Nat.lt_or_eq_of_le hy with h2 | h2
  · rw [read_fin x h1, read_fin y h2]
    simp only [Datum.order]
    rw [min_place]
    obtain ⟨b, hb⟩ : ∃ b, b = min (expOf (rungOf x)) (expOf (rungOf y)) := ⟨_, rfl⟩
    rw [← hb]
    have e1 : (-1074 + (expOf (rungOf x) : Int) - (-1074 + (b : Int))).toNat = expOf (rungOf x) - b := by omega
    have e2 : (-1074 + (expOf (rungOf y) : Int) - (-1074 + (b : Int))).toNat = expOf (rungOf y) - b := by omega
    rw [e1, e2, ← signed_K x b (by omega), ← signed_K y b (by omega)]
    have hp : (0 : Int) < (2 ^ b : Nat) := by have := Nat.two_pow_pos b; omega
    congr 1
    obtain ⟨u, hu⟩ : ∃ u, u = signed (negOf x) (magOf (rungOf x)) (expOf (rungOf x) - b) := ⟨_, rfl⟩
    obtain ⟨v, hv⟩ : ∃ v, v = signed (negOf y) (magOf (rungOf y)) (expOf (rungOf y) - b) := ⟨_, rfl⟩
    rw [← hu, ← hv]
    rcases Int.lt_trichotomy u v with h | h | h
    · rw [Int.compare_eq_lt.2 h, Int.compare_eq_lt.2 (Int.mul_lt_mul_of_pos_right h hp)]
    · rw [h]; rw [Int.compare_eq_eq.2 rfl, Int.compare_eq_eq.2 rfl]
    · rw [Int.compare_eq_gt.2 h, Int.compare_eq_gt.2 (Int.mul_lt_mul_of_pos_right h hp)]
  · rw [read_fin x h1, read_inf y h2]
    simp only [Datum.order]
    have hv := V_lt _ _ h1
    unfold K
    rw [h2]
    cases negOf y
    · simp only [Bool.false_eq_true, if_false]
      rw [Int.compare_eq_lt.2 (by split <;> omega)]
    · simp only [if_true]
      rw [Int.compare_eq_gt.2 (by split <;> omega)]
  · rw [read_inf x h1, read_fin y h2]
    simp only [Datum.order]
    have hv := V_lt _ _ h2
    unfold K
    rw [h1]
    cases negOf x
    · simp only [Bool.false_eq_true, if_false]
      rw [Int.compare_eq_gt.2 (by split <;> omega)]
    · simp only [if_true]
      rw [Int.compare_eq_lt.2 (by split <;> omega)]
  · rw [read_inf x h1, read_inf y h2]
    simp only [Datum.order]
    unfold K
    rw [h1, h2]
    cases negOf x <;> cases negOf y
    · simp only [Bool.false_eq_true, if_false]; rw [Int.compare_eq_eq.2 rfl]; rfl
    · simp only [Bool.false_eq_true, if_false, if_true]; rw [Int.compare_eq_gt.2 (by omega)]; rfl
    · simp only [Bool.false_eq_true, if_false, if_true]; rw [Int.compare_eq_lt.2 (by omega)]; rfl
    · simp only [if_true]; rw [Int.compare_eq_eq.2 rfl]; rfl

theorem order_nan (x y : Nat) (h : INF < rungOf x ∨ INF < rungOf y) : double.order x y = none := by
  unfold Format.order
  rcases h with h | h
  · rw [read_nan x h]; rfl
  · rw [read_nan y h]; cases double.read x <;> rfl

theorem write_number (neg : Bool) (mag : Nat) (b : Nat) : double.write (.number neg mag (-1074 + (b : Int))) = double.word neg (rn (mag * 2 ^ b) 1) := by
  show double.nearest _ _ _ = _
  rw [nearest_rn]
  have e1 : (-1074 + (b : Int) + 1074).toNat = b := by omega
  have e2 : (-(-1074 + (b : Int) + 1074)).toNat = 0 := by omega
  rw [e1, e2, Nat.pow_zero]

theorem sum_key (s t : Bool) (m n e f : Nat) (u v : Int) (hu : ∀ b, b ≤ e → signed s m (e - b) * (2 ^ b : Nat) = u) (hv : ∀ b, b ≤ f → signed t n (f - b) * (2 ^ b : Nat) = v) :
    ((Datum.number s m (-1074 + (e : Int))).sum (.number t n (-1074 + (f : Int)))).map double.write =
    some (double.word (if u + v = 0 then s && t else decide (u + v < 0)) (rn (u + v).natAbs 1)) := by
  simp only [Datum.sum, Option.map]
  rw [min_place]
  obtain ⟨b, hb⟩ : ∃ b, b = min e f := ⟨_, rfl⟩
  rw [← hb]
  have e1 : (-1074 + (e : Int) - (-1074 + (b : Int))).toNat = e - b := by omega
  have e2 : (-1074 + (f : Int) - (-1074 + (b : Int))).toNat = f - b := by omega
  rw [e1, e2, write_number]
  have hu' := hu b (by omega)
  have hv' := hv b (by omega)
  obtain ⟨p, hp⟩ : ∃ p, p = signed s m (e - b) + signed t n (f - b) := ⟨_, rfl⟩
  rw [← hp]
  have hP : (0 : Int) < (2 ^ b : Nat) := by have := Nat.two_pow_pos b; omega
  have huv : u + v = p * (2 ^ b : Nat) := by rw [hp, Int.add_mul, hu', hv']
  rw [huv]
  have h1 : (p * ((2 ^ b : Nat) : Int) = 0) = (p = 0) := by
    apply propext; constructor
    · intro h
      rcases Int.mul_eq_zero.1 h with h | h
      · exact h
      · omega
    · intro h; rw [h, Int.zero_mul]
  have h2 : (p * ((2 ^ b : Nat) : Int) < 0) = (p < 0) := by
    apply propext; constructor
    · intro h
      by_cases h' : p < 0
      · exact h'
      · have := Int.mul_nonneg (Int.not_lt.1 h') (Int.le_of_lt hP); omega
    · intro h; exact Int.mul_neg_of_neg_of_pos h hP
  have h3 : (p * ((2 ^ b : Nat) : Int)).natAbs = p.natAbs * 2 ^ b := by
    rw [Int.natAbs_mul, Int.natAbs_natCast]
  rw [h3]
  simp only [h1, h2]

theorem add_fin (x y : Nat) (hx : rungOf x < INF) (hy : rungOf y < INF) :
    double.add x y = some (double.word (if K x + K y = 0 then negOf x && negOf y else decide (K x + K y < 0)) (rn (K x + K y).natAbs 1)) := by
  unfold Format.add
  rw [read_fin x hx, read_fin y hy]
  exact sum_key _ _ _ _ _ _ _ _ (signed_K x) (signed_K y)

/-- The sign turned. -/
def flip (y : Nat) : Nat := if y < 2 ^ 63 then y + 2 ^ 63 else y - 2 ^ 63

theorem flip_lt (y : Nat) (h : y < 2 ^ 64) : flip y < 2 ^ 64 := by unfold flip; split <;> omega
theorem rungOf_flip (y : Nat) (h : y < 2 ^ 64) : rungOf (flip y) = rungOf y := by unfold flip rungOf; split <;> omega
theorem negOf_flip (y : Nat) (h : y < 2 ^ 64) : negOf (flip y) = !negOf y := by
  unfold flip negOf
  by_cases hy : y < 2 ^ 63
  · have h1 : y / 2 ^ 63 = 0 := Nat.div_eq_of_lt hy
    have h2 : (y + 2 ^ 63) / 2 ^ 63 = 1 := by omega
    rw [if_pos hy, h1, h2]; rfl
  · have h1 : y / 2 ^ 63 = 1 := by omega
    have h2 : (y - 2 ^ 63) / 2 ^ 63 = 0 := by omega
    rw [if_neg hy, h1, h2]; rfl

theorem read_flip (y : Nat) (h : y < 2 ^ 64) : double.read (flip y) = (double.read y).opposite := by
  rw [read_eq, read_eq, rungOf_flip y h, negOf_flip y h]
  split
  · rfl
  · split <;> rfl

theorem sub_flip (x y : Nat) (h : y < 2 ^ 64) : double.sub x y = double.add x (flip y) := by
  unfold Format.sub Format.add
  rw [read_flip y h]

theorem sum_comm (a b : Datum) : a.sum b = b.sum a := by
  cases a <;> cases b <;> simp only [Datum.sum]
  · rename_i s m i t n j
    rw [Int.min_comm i j, Int.add_comm, Bool.and_comm]
  · rename_i s t
    by_cases h : s = t
    · subst h; rfl
    · have h' : ¬ t = s := fun e => h e.symm
      rw [if_neg h, if_neg h']

theorem add_comm' (x y : Nat) : double.add x y = double.add y x := by
  unfold Format.add; rw [sum_comm]

theorem product_comm (a b : Datum) : a.product b = b.product a := by
  cases a <;> cases b <;> simp only [Datum.product]
  · rename_i s m i t n j
    rw [Bool.xor_comm, Nat.mul_comm, Int.add_comm]
  · rename_i s t
    rw [Bool.xor_comm]

theorem mul_comm' (x y : Nat) : double.mul x y = double.mul y x := by
  unfold Format.mul; rw [product_comm]

theorem add_nan (x y : Nat) (h : INF < rungOf x ∨ INF < rungOf y) : double.add x y = none := by
  unfold Format.add
  rcases h with h | h
  · rw [read_nan x h]; rfl
  · rw [read_nan y h]; cases double.read x <;> rfl
theorem mul_nan (x y : Nat) (h : INF < rungOf x ∨ INF < rungOf y) : double.mul x y = none := by
  unfold Format.mul
  rcases h with h | h
  · rw [read_nan x h]; rfl
  · rw [read_nan y h]; cases double.read x <;> rfl
theorem div_nan (x y : Nat) (h : INF < rungOf x ∨ INF < rungOf y) : double.div x y = none := by
  unfold Format.div
  rcases h with h | h
  · rw [read_nan x h]; rfl
  · rw [read_nan y h]; cases double.read x <;> rfl
theorem sub_nan (x y : Nat) (h : INF < rungOf x ∨ INF < rungOf y) : double.sub x y = none := by
  unfold Format.sub
  rcases h with h | h
  · rw [read_nan x h]; rfl
  · rw [read_nan y h]; cases double.read x <;> rfl

/-- Infinities in sums. -/
theorem add_inf (x y : Nat) (hx : rungOf x = INF) (hy : rungOf y < INF) : double.add x y = some (double.word (negOf x) INF) := by
  unfold Format.add
  rw [read_inf x hx, read_fin y hy]; rfl
theorem add_infs (x y : Nat) (hx : rungOf x = INF) (hy : rungOf y = INF) : double.add x y = if negOf x = negOf y then some (double.word (negOf x) INF) else none := by
  unfold Format.add
  rw [read_inf x hx, read_inf y hy]
  simp only [Datum.sum]
  split <;> rfl

theorem mul_fin (x y : Nat) (hx : rungOf x < INF) (hy : rungOf y < INF) :
    double.mul x y = some (double.word (negOf x ^^ negOf y) (rn (V (rungOf x) * V (rungOf y)) (2 ^ unit))) := by
  unfold Format.mul
  rw [read_fin x hx, read_fin y hy]
  simp only [Datum.product, Option.map]
  show some (double.nearest _ _ _) = _
  rw [nearest_rn]
  congr 2
  unfold V
  obtain ⟨m, hm⟩ : ∃ m, m = magOf (rungOf x) := ⟨_, rfl⟩
  obtain ⟨n, hn⟩ : ∃ n, n = magOf (rungOf y) := ⟨_, rfl⟩
  obtain ⟨e, he⟩ : ∃ e, e = expOf (rungOf x) := ⟨_, rfl⟩
  obtain ⟨f, hf⟩ : ∃ f, f = expOf (rungOf y) := ⟨_, rfl⟩
  rw [← hm, ← hn, ← he, ← hf]
  obtain ⟨a, ha⟩ : ∃ a, a = (-1074 + (e : Int) + (-1074 + (f : Int)) + 1074).toNat := ⟨_, rfl⟩
  obtain ⟨b, hb⟩ : ∃ b, b = (-(-1074 + (e : Int) + (-1074 + (f : Int)) + 1074)).toNat := ⟨_, rfl⟩
  rw [← ha, ← hb]
  have hT : unit = 1074 := rfl
  have hE : e + f + b = a + unit := by omega
  have g1 : m * 2 ^ e * (n * 2 ^ f) = m * n * 2 ^ (e + f) := by
    rw [pow_add', Nat.mul_mul_mul_comm]
  rw [g1]
  by_cases hz : a = 0
  · subst hz
    have h1 : unit = b + (e + f) := by omega
    rw [h1, pow_add' b (e + f), Nat.pow_zero, Nat.mul_one, rn_scale _ _ _ (Nat.two_pow_pos _)]
  · have hb0 : b = 0 := by omega
    subst hb0
    have h1 : e + f = a + unit := by omega
    rw [h1, pow_add' a unit, ← Nat.mul_assoc]
    have := rn_scale (m * n * 2 ^ a) (2 ^ 0) (2 ^ unit) (Nat.two_pow_pos _)
    rw [Nat.pow_zero, Nat.one_mul] at this
    exact this.symm

theorem mul_inf (x y : Nat) (hx : rungOf x = INF) (hy : rungOf y ≤ INF) (h0 : rungOf y ≠ 0) : double.mul x y = some (double.word (negOf x ^^ negOf y) INF) := by
  unfold Format.mul
  rw [read_inf x hx]
  rcases Nat.lt_or_eq_of_le hy with h | h
  · rw [read_fin y h]
    have hm : magOf (rungOf y) ≠ 0 := by obtain ⟨a, b, c⟩ := rung_pack (rungOf y); omega
    simp only [Datum.product, if_neg hm]
    rfl
  · rw [read_inf y h]; rfl
theorem mul_inf_zero (x y : Nat) (hx : rungOf x = INF) (h0 : rungOf y = 0) : double.mul x y = none := by
  unfold Format.mul
  rw [read_inf x hx, read_fin y (by rw [h0]; decide), h0]
  rfl
end Go.Proofs.YtfkdaimhdjaefaaDoor.Flt

/- Binary64: quotients in closed form; ones, zeros, differences. -/
namespace Go.Proofs.YtfkdaimhdjaefaaDoor.Flt
open Ieee

/-- What is kept of a quotient q, of which something is left (s), without its last d bits. -/
def keep (q : Nat) (s : Bool) (d : Nat) : Nat :=
  q / 2 ^ d + (decide (2 ^ d < 2 * (q % 2 ^ d)) || (2 ^ d == 2 * (q % 2 ^ d) && (s || q / 2 ^ d % 2 == 1))).toNat

theorem rhe_keep (N n d : Nat) (hn : 0 < n) (hd : 0 < d) : rhe N (n * 2 ^ d) = keep (N / n) (N % n != 0) d := by
  unfold rhe keep
  obtain ⟨c, rfl⟩ : ∃ c, d = c + 1 := ⟨d - 1, by omega⟩
  have hp : 2 ^ (c + 1) = 2 * 2 ^ c := by rw [Nat.pow_succ, Nat.mul_comm]
  rw [hp]
  obtain ⟨G, hG⟩ : ∃ G, G = 2 ^ c := ⟨_, rfl⟩
  have hG0 : 0 < G := by rw [hG]; exact Nat.two_pow_pos c
  rw [← hG]
  rw [← Nat.div_div_eq_div_mul]
  have hmod : N % (n * (2 * G)) = n * (N / n % (2 * G)) + N % n := by
    rw [Nat.mod_mul, Nat.add_comm]
  rw [hmod]
  obtain ⟨Q, hQ⟩ : ∃ Q, Q = N / n := ⟨_, rfl⟩
  obtain ⟨m, hm⟩ : ∃ m, m = Q % (2 * G) := ⟨_, rfl⟩
  obtain ⟨r, hr⟩ : ∃ r, r = N % n := ⟨_, rfl⟩
  have hrn : r < n := by rw [hr]; exact Nat.mod_lt _ hn
  rw [← hQ, ← hm, ← hr]
  congr 2
  have e1 : n * (2 * G) = 2 * (n * G) := by rw [Nat.mul_left_comm]
  have e2 : 2 * (n * m + r) = 2 * (n * m) + 2 * r := by omega
  rw [e1, e2]
  rcases Nat.lt_trichotomy m G with h | h | h
  · -- below
    have hle : n * m + n ≤ n * G := by
      have : n * (m + 1) ≤ n * G := Nat.mul_le_mul_left n h
      rw [Nat.mul_add, Nat.mul_one] at this; exact this
    have a1 : decide (2 * (n * G) < 2 * (n * m) + 2 * r) = false := by simp; omega
    have a2 : (2 * (n * G) == 2 * (n * m) + 2 * r) = false := by simp; omega
    have a3 : decide (2 * G < 2 * m) = false := by simp; omega
    have a4 : (2 * G == 2 * m) = false := by simp; omega
    rw [a1, a2, a3, a4]; rfl
  · subst h
    by_cases hr0 : r = 0
    · rw [hr0]
      have a1 : decide (2 * (n * m) < 2 * (n * m) + 2 * 0) = false := by simp
      have a2 : (2 * (n * m) == 2 * (n * m) + 2 * 0) = true := by simp
      have a3 : decide (2 * m < 2 * m) = false := by simp
      have a4 : (2 * m == 2 * m) = true := by simp
      rw [a1, a2, a3, a4]; simp
    · have a1 : decide (2 * (n * m) < 2 * (n * m) + 2 * r) = true := by simp; omega
      have a2 : (2 * m == 2 * m) = true := by simp
      have a3 : (r != 0) = true := by simp; omega
      rw [a1, a2, a3]; simp
  · have hlt : n * G < n * m := Nat.mul_lt_mul_of_pos_left h hn
    have a1 : decide (2 * (n * G) < 2 * (n * m) + 2 * r) = true := by simp; omega
    have a3 : decide (2 * G < 2 * m) = true := by simp; omega
    rw [a1, a3]; rfl

/-- The quotient, doubled, with what is left as its last bit, is rounded as the quotient is. -/
theorem rn_sticky (N n a b : Nat) (hn : 0 < n) (hq : 2 ^ 53 ≤ N / n) :
    rn ((2 * (N / n) + (N % n != 0).toNat) * 2 ^ a) (2 * 2 ^ b) = rn (N * 2 ^ a) (n * 2 ^ b) := by
  obtain ⟨Q, hQ⟩ : ∃ Q, Q = N / n := ⟨_, rfl⟩
  obtain ⟨s, hs⟩ : ∃ s, s = (N % n != 0) := ⟨_, rfl⟩
  have hs1 : s.toNat ≤ 1 := by cases s <;> simp
  have hN : N = n * Q + N % n := by rw [hQ]; exact (Nat.div_add_mod N n).symm
  have hr : N % n < n := Nat.mod_lt _ hn
  have hN0 : N ≠ 0 := by
    intro h; rw [h, Nat.zero_div] at hq
    have := Nat.two_pow_pos 53; omega
  have hM2 : (2 * Q + s.toNat) / 2 = Q := by omega
  have hM3 : ((2 * Q + s.toNat) % 2 != 0) = s := by
    cases s
    · simp
    · have : (2 * Q + Bool.toNat true) % 2 = 1 := by simp only [Bool.toNat_true]; omega
      rw [this]; rfl
  rw [← hQ, ← hs]
  unfold rn
  have p1 : (2 * Q + s.toNat) * 2 ^ a ≠ 0 := Nat.mul_ne_zero (by rw [← hQ] at hq; have := Nat.two_pow_pos 53; omega) (by have := Nat.two_pow_pos a; omega)
  have p2 : N * 2 ^ a ≠ 0 := Nat.mul_ne_zero hN0 (by have := Nat.two_pow_pos a; omega)
  rw [if_neg p1, if_neg p2]
  -- the same number of bits
  have hlog : ((2 * Q + s.toNat) * 2 ^ a / (2 * 2 ^ b)).log2 = (N * 2 ^ a / (n * 2 ^ b)).log2 ∧ a + 1 ≤ b + ((N * 2 ^ a / (n * 2 ^ b)).log2 - 52) := by
    rw [← hQ] at hq
    have hQ0 : Q ≠ 0 := by have := Nat.two_pow_pos 53; omega
    have hql : 53 ≤ Q.log2 := (Nat.le_log2 hQ0).2 hq
    by_cases hab : a < b
    · obtain ⟨c, rfl⟩ : ∃ c, b = c + a := ⟨b - a, by omega⟩
      have g1 : (2 * Q + s.toNat) * 2 ^ a / (2 * 2 ^ (c + a)) = Q / 2 ^ c := by
        rw [pow_add' c a, ← Nat.mul_assoc, Nat.mul_div_mul_right _ _ (Nat.two_pow_pos a), ← Nat.div_div_eq_div_mul, hM2]
      have g2 : N * 2 ^ a / (n * 2 ^ (c + a)) = Q / 2 ^ c := by
        rw [pow_add' c a, ← Nat.mul_assoc, Nat.mul_div_mul_right _ _ (Nat.two_pow_pos a), ← Nat.div_div_eq_div_mul, ← hQ]
      rw [g1, g2]
      exact ⟨rfl, by omega⟩
    · obtain ⟨c, rfl⟩ : ∃ c, a = c + b := ⟨a - b, by omega⟩
      have hc : 0 < 2 ^ c := Nat.two_pow_pos c
      have g1 : (2 * Q + s.toNat) * 2 ^ (c + b) / (2 * 2 ^ b) = (2 * Q + s.toNat) * 2 ^ c / 2 := by
        rw [pow_add' c b, ← Nat.mul_assoc, Nat.mul_div_mul_right _ _ (Nat.two_pow_pos b)]
      have g2 : N * 2 ^ (c + b) / (n * 2 ^ b) = N * 2 ^ c / n := by
        rw [pow_add' c b, ← Nat.mul_assoc, Nat.mul_div_mul_right _ _ (Nat.two_pow_pos b)]
      have hup : (Q + 1) * 2 ^ c ≤ 2 ^ (Q.log2 + c + 1) := by
        have : Q.log2 + c + 1 = (Q.log2 + 1) + c := by omega
        rw [this, pow_add']
        exact Nat.mul_le_mul_right _ Nat.lt_log2_self
      have hlow : 2 ^ (Q.log2 + c) ≤ Q * 2 ^ c := by
        rw [pow_add']; exact Nat.mul_le_mul_right _ (Nat.log2_self_le hQ0)
      have k1 : ((2 * Q + s.toNat) * 2 ^ c / 2).log2 = Q.log2 + c := by
        have l1 : Q * 2 ^ c ≤ (2 * Q + s.toNat) * 2 ^ c / 2 := by
          rw [Nat.le_div_iff_mul_le (by decide)]
          have : Q * 2 ^ c * 2 = 2 * Q * 2 ^ c := by rw [Nat.mul_comm (Q * 2 ^ c), Nat.mul_assoc]
          rw [this]; exact Nat.mul_le_mul_right _ (by omega)
        have l2 : (2 * Q + s.toNat) * 2 ^ c / 2 < (Q + 1) * 2 ^ c := by
          rw [Nat.div_lt_iff_lt_mul (by decide)]
          have : (Q + 1) * 2 ^ c * 2 = (2 * Q + 2) * 2 ^ c := by rw [Nat.mul_comm ((Q + 1) * 2 ^ c), ← Nat.mul_assoc, Nat.mul_add, Nat.mul_one]
          rw [this]; exact Nat.mul_lt_mul_of_pos_right (by omega) hc
        have h0 : (2 * Q + s.toNat) * 2 ^ c / 2 ≠ 0 := by have := Nat.two_pow_pos (Q.log2 + c); omega
        exact (Nat.log2_eq_iff h0).2 ⟨by omega, by omega⟩
      have k2 : (N * 2 ^ c / n).log2 = Q.log2 + c := by
        have l1 : Q * 2 ^ c ≤ N * 2 ^ c / n := by
          rw [Nat.le_div_iff_mul_le hn, Nat.mul_right_comm]
          apply Nat.mul_le_mul_right
          rw [Nat.mul_comm]; omega
        have l2 : N * 2 ^ c / n < (Q + 1) * 2 ^ c := by
          rw [Nat.div_lt_iff_lt_mul hn, Nat.mul_right_comm]
          apply Nat.mul_lt_mul_of_pos_right _ hc
          rw [Nat.mul_comm, Nat.mul_add, Nat.mul_one]; omega
        have h0 : N * 2 ^ c / n ≠ 0 := by have := Nat.two_pow_pos (Q.log2 + c); omega
        exact (Nat.log2_eq_iff h0).2 ⟨by omega, by omega⟩
      rw [g1, g2, k1, k2]
      exact ⟨rfl, by omega⟩
  obtain ⟨h1, h2⟩ := hlog
  rw [h1]
  obtain ⟨t, ht⟩ : ∃ t, t = (N * 2 ^ a / (n * 2 ^ b)).log2 - 52 := ⟨_, rfl⟩
  rw [← ht] at h2 ⊢
  obtain ⟨d, hd⟩ : ∃ d, b + t = d + a := ⟨b + t - a, by omega⟩
  have e1 : 2 * 2 ^ b * 2 ^ t = 2 * 2 ^ d * 2 ^ a := by rw [Nat.mul_assoc, ← pow_add', hd, pow_add', Nat.mul_assoc]
  have e2 : n * 2 ^ b * 2 ^ t = n * 2 ^ d * 2 ^ a := by rw [Nat.mul_assoc, ← pow_add', hd, pow_add', Nat.mul_assoc]
  rw [e1, e2, rhe_scale _ _ _ (Nat.two_pow_pos a), rhe_scale _ _ _ (Nat.two_pow_pos a)]
  rw [rhe_keep _ 2 d (by decide) (by omega), rhe_keep _ n d hn (by omega), hM2, hM3, ← hQ, ← hs]

theorem div_key (m n e f : Nat) (hmb : m < 2 ^ 53) (hn0 : n ≠ 0) (s : Bool) :
    double.nearest s (2 * (m <<< (52 + 2 + n.log2 - m.log2) / n) + (m <<< (52 + 2 + n.log2 - m.log2) % n != 0).toNat)
      (-1074 + (e : Int) - (-1074 + (f : Int)) - ((52 + 2 + n.log2 - m.log2 : Nat) : Int) - 1) =
    double.word s (rn (m * 2 ^ e * 2 ^ unit) (n * 2 ^ f)) := by
  rw [nearest_rn]
  by_cases hm0 : m = 0
  · subst hm0
    simp [rn_zero]
  · have hml := log2_lt53 m hmb
    obtain ⟨w, hw⟩ : ∃ w, w = 52 + 2 + n.log2 - m.log2 := ⟨_, rfl⟩
    rw [← hw]
    have hT : unit = 1074 := rfl
    have hq : 2 ^ 53 ≤ m <<< w / n := by
      rw [Nat.shiftLeft_eq, Nat.le_div_iff_mul_le (by omega)]
      have h1 : n < 2 ^ (n.log2 + 1) := Nat.lt_log2_self
      have h2 : 2 ^ m.log2 ≤ m := Nat.log2_self_le hm0
      have h3 : 2 ^ m.log2 * 2 ^ w ≤ m * 2 ^ w := Nat.mul_le_mul_right _ h2
      have h4 : m.log2 + w = 53 + (n.log2 + 1) := by omega
      rw [← pow_add', h4, pow_add'] at h3
      have h5 : 2 ^ 53 * n ≤ 2 ^ 53 * 2 ^ (n.log2 + 1) := Nat.mul_le_mul_left _ (Nat.le_of_lt h1)
      exact Nat.le_trans h5 h3
    obtain ⟨a, ha⟩ : ∃ a, a = (-1074 + (e : Int) - (-1074 + (f : Int)) - (w : Int) - 1 + 1074).toNat := ⟨_, rfl⟩
    obtain ⟨b, hb⟩ : ∃ b, b = (-(-1074 + (e : Int) - (-1074 + (f : Int)) - (w : Int) - 1 + 1074)).toNat := ⟨_, rfl⟩
    rw [← ha, ← hb]
    have hE : e + unit + b = a + f + w + 1 := by omega
    refine congrArg (double.word s) ?_
    rw [← rn_scale _ (2 ^ b) 2 (by decide)]
    have g1 : (2 * (m <<< w / n) + (m <<< w % n != 0).toNat) * 2 ^ a * 2 = (2 * (m <<< w / n) + (m <<< w % n != 0).toNat) * 2 ^ (a + 1) := by
      rw [Nat.mul_assoc, ← Nat.pow_succ]
    rw [g1, Nat.mul_comm (2 ^ b) 2, rn_sticky _ n (a + 1) b (by omega) hq, Nat.shiftLeft_eq]
    -- m 2^w 2^(a+1) / (n 2^b) = m 2^e 2^unit / (n 2^f)
    have k1 := rn_scale (m * 2 ^ w * 2 ^ (a + 1)) (n * 2 ^ b) (2 ^ f) (Nat.two_pow_pos f)
    have k2 := rn_scale (m * 2 ^ e * 2 ^ unit) (n * 2 ^ f) (2 ^ b) (Nat.two_pow_pos b)
    rw [← k1, ← k2]
    have q1 : m * 2 ^ w * 2 ^ (a + 1) * 2 ^ f = m * 2 ^ (w + (a + 1) + f) := by rw [pow_add' (w + (a + 1)) f, pow_add' w (a + 1)]; simp only [Nat.mul_assoc]
    have q2 : m * 2 ^ e * 2 ^ unit * 2 ^ b = m * 2 ^ (e + unit + b) := by rw [pow_add', pow_add']; simp only [Nat.mul_assoc]
    have q3 : n * 2 ^ b * 2 ^ f = n * 2 ^ f * 2 ^ b := Nat.mul_right_comm _ _ _
    have q4 : w + (a + 1) + f = e + unit + b := by omega
    rw [q1, q2, q3, q4]

theorem div_fin (x y : Nat) (hx : rungOf x < INF) (hy : rungOf y < INF) (hy0 : rungOf y ≠ 0) :
    double.div x y = some (double.word (negOf x ^^ negOf y) (rn (V (rungOf x) * 2 ^ unit) (V (rungOf y)))) := by
  unfold Format.div
  rw [read_fin x hx, read_fin y hy]
  have hn0 : magOf (rungOf y) ≠ 0 := by obtain ⟨a, b, c⟩ := rung_pack (rungOf y); omega
  obtain ⟨-, hmb, -⟩ := rung_pack (rungOf x)
  simp only [Datum.quotient, if_neg hn0, Option.map]
  exact congrArg some (div_key (magOf (rungOf x)) (magOf (rungOf y)) (expOf (rungOf x)) (expOf (rungOf y)) hmb hn0 (negOf x ^^ negOf y))

theorem div_inf (x y : Nat) (hx : rungOf x = INF) (hy : rungOf y < INF) : double.div x y = some (double.word (negOf x ^^ negOf y) INF) := by
  unfold Format.div
  rw [read_inf x hx, read_fin y hy]; rfl
theorem div_infs (x y : Nat) (hx : rungOf x = INF) (hy : rungOf y = INF) : double.div x y = none := by
  unfold Format.div
  rw [read_inf x hx, read_inf y hy]; rfl
theorem div_by_inf (x y : Nat) (hx : rungOf x < INF) (hy : rungOf y = INF) : double.div x y = some (double.word (negOf x ^^ negOf y) 0) := by
  unfold Format.div
  rw [read_fin x hx, read_inf y hy]; rfl
theorem div_by_zero (x y : Nat) (hx : rungOf x < INF) (hx0 : rungOf x ≠ 0) (hy : rungOf y = 0) : double.div x y = some (double.word (negOf x ^^ negOf y) INF) := by
  unfold Format.div
  have hm0 : magOf (rungOf x) ≠ 0 := by obtain ⟨a, b, c⟩ := rung_pack (rungOf x); omega
  rw [read_fin x hx, read_fin y (by rw [hy]; decide), hy]
  have : magOf 0 = 0 := rfl
  simp only [this, Datum.quotient, if_neg hm0, if_true]
  rfl
theorem div_zeros (x y : Nat) (hx : rungOf x = 0) (hy : rungOf y = 0) : double.div x y = none := by
  unfold Format.div
  rw [read_fin x (by rw [hx]; decide), read_fin y (by rw [hy]; decide), hy, hx]
  rfl

/-- No result is a NaN. -/
theorem word_fine (s : Bool) (r : Nat) (h : r ≤ INF) : rungOf (double.word s r) ≤ INF ∧ double.word s r < 2 ^ 64 := by
  have hI : INF = 2047 * 2 ^ 52 := rfl
  rw [rungOf_word s r (by omega)]
  refine ⟨h, ?_⟩
  rw [word_eq]; split <;> omega

theorem write_fine (d : Datum) (h : d.isNaN = false) : rungOf (double.write d) ≤ INF ∧ double.write d < 2 ^ 64 := by
  cases d with
  | number s m p =>
    show rungOf (double.nearest s m p) ≤ INF ∧ double.nearest s m p < 2 ^ 64
    rw [nearest_rn]; exact word_fine _ _ (rn_le _ _)
  | infinity s => exact word_fine s INF (Nat.le_refl _)
  | nan s t => cases h

theorem map_fine (o : Option Datum) (h : ∀ d, o = some d → d.isNaN = false) (r : Nat) (hr : o.map double.write = some r) : rungOf r ≤ INF ∧ r < 2 ^ 64 := by
  cases o with
  | none => cases hr
  | some d => cases hr; exact write_fine d (h d rfl)

theorem sum_notnan (a b d : Datum) (h : a.sum b = some d) : d.isNaN = false := by
  cases a <;> cases b <;> simp only [Datum.sum] at h <;> first | (cases h; done) | (cases h; rfl) | skip
  · split at h <;> cases h; rfl
theorem product_notnan (a b d : Datum) (h : a.product b = some d) : d.isNaN = false := by
  cases a <;> cases b <;> simp only [Datum.product] at h <;> first | (cases h; done) | (cases h; rfl) | skip
  · split at h <;> cases h; rfl
  · split at h <;> cases h; rfl
theorem quotient_notnan (k : Nat) (a b d : Datum) (h : a.quotient k b = some d) : d.isNaN = false := by
  cases a <;> cases b <;> simp only [Datum.quotient] at h <;> first | (cases h; done) | (cases h; rfl) | skip
  · split at h
    · split at h <;> cases h; rfl
    · cases h; rfl

theorem add_fine (x y r : Nat) (h : double.add x y = some r) : rungOf r ≤ INF ∧ r < 2 ^ 64 := map_fine _ (sum_notnan _ _) r h
theorem sub_fine (x y r : Nat) (h : double.sub x y = some r) : rungOf r ≤ INF ∧ r < 2 ^ 64 := map_fine _ (sum_notnan _ _) r h
theorem mul_fine (x y r : Nat) (h : double.mul x y = some r) : rungOf r ≤ INF ∧ r < 2 ^ 64 := map_fine _ (product_notnan _ _) r h
theorem div_fine (x y r : Nat) (h : double.div x y = some r) : rungOf r ≤ INF ∧ r < 2 ^ 64 := map_fine _ (quotient_notnan _ _ _) r h
end Go.Proofs.YtfkdaimhdjaefaaDoor.Flt

/- Binary64: what FltFollows asks of sums, products, quotients, order. -/
namespace Go.Proofs.YtfkdaimhdjaefaaDoor.Flt
open Ieee

def NAN : Nat := 0x7ff8000000000000
def fadd (x y : Nat) : Nat := (double.add x y).getD NAN
def fsub (x y : Nat) : Nat := (double.sub x y).getD NAN
def fmul (x y : Nat) : Nat := (double.mul x y).getD NAN
def fdiv (x y : Nat) : Nat := (double.div x y).getD NAN
def fless (x y : Nat) : Bool := double.order x y == some .lt

theorem fadd_comm (x y : Nat) : fadd x y = fadd y x := by unfold fadd; rw [add_comm']
theorem fmul_comm (x y : Nat) : fmul x y = fmul y x := by unfold fmul; rw [mul_comm']
theorem fsub_flip (x y : Nat) (h : y < 2 ^ 64) : fsub x y = fadd x (flip y) := by unfold fsub fadd; rw [sub_flip x y h]

theorem getD_nan (o : Option Nat) (h : ∀ r, o = some r → rungOf r ≤ INF ∧ r < 2 ^ 64) : (INF < rungOf (o.getD NAN) → o.getD NAN = NAN) ∧ o.getD NAN < 2 ^ 64 := by
  cases o with
  | none => exact ⟨fun _ => rfl, by decide⟩
  | some r => exact ⟨fun h' => by have := (h r rfl).1; simp only [Option.getD_some] at h'; omega, (h r rfl).2⟩

theorem fadd_nan (x y : Nat) : (INF < rungOf (fadd x y) → fadd x y = NAN) ∧ fadd x y < 2 ^ 64 := getD_nan _ (add_fine x y)
theorem fsub_nan (x y : Nat) : (INF < rungOf (fsub x y) → fsub x y = NAN) ∧ fsub x y < 2 ^ 64 := getD_nan _ (sub_fine x y)
theorem fmul_nan (x y : Nat) : (INF < rungOf (fmul x y) → fmul x y = NAN) ∧ fmul x y < 2 ^ 64 := getD_nan _ (mul_fine x y)
theorem fdiv_nan (x y : Nat) : (INF < rungOf (fdiv x y) → fdiv x y = NAN) ∧ fdiv x y < 2 ^ 64 := getD_nan _ (div_fine x y)

theorem fadd_of_nan (x y : Nat) (h : INF < rungOf x ∨ INF < rungOf y) : fadd x y = NAN := by unfold fadd; rw [add_nan x y h]; rfl
theorem fsub_of_nan (x y : Nat) (h : INF < rungOf x ∨ INF < rungOf y) : fsub x y = NAN := by unfold fsub; rw [sub_nan x y h]; rfl
theorem fmul_of_nan (x y : Nat) (h : INF < rungOf x ∨ INF < rungOf y) : fmul x y = NAN := by unfold fmul; rw [mul_nan x y h]; rfl
theorem fdiv_of_nan (x y : Nat) (h : INF < rungOf x ∨ INF < rungOf y) : fdiv x y = NAN := by unfold fdiv; rw [div_nan x y h]; rfl

theorem fless_of_nan (x y : Nat) (h : INF < rungOf x ∨ INF < rungOf y) : fless x y = false := by unfold fless; rw [order_nan x y h]; rfl

theorem fless_key (x y : Nat) (hx : rungOf x ≤ INF) (hy : rungOf y ≤ INF) : fless x y = decide (K x < K y) := by
  unfold fless
  rw [order_key x y hx hy]
  by_cases h : K x < K y
  · rw [Int.compare_eq_lt.2 h]; simp [h]
  · rcases Int.lt_trichotomy (K x) (K y) with h1 | h1 | h1
    · exact absurd h1 h
    · rw [Int.compare_eq_eq.2 h1]; simp [h]
    · rw [Int.compare_eq_gt.2 h1]; simp [h]

theorem fless_anti (x y : Nat) (h : fless x y = true) : fless y x = false := by
  by_cases hx : INF < rungOf x
  · rw [fless_of_nan x y (.inl hx)] at h; cases h
  · by_cases hy : INF < rungOf y
    · rw [fless_of_nan x y (.inr hy)] at h; cases h
    · rw [fless_key x y (by omega) (by omega)] at h
      rw [fless_key y x (by omega) (by omega)]
      simp only [decide_eq_true_eq, decide_eq_false_iff_not] at h ⊢
      omega

def ONE : Nat := 0x3ff0000000000000
def SIGN : Nat := 0x8000000000000000

theorem V_one : V ONE = 2 ^ unit := by
  have e1 : magOf ONE = 2 ^ 52 := by decide
  have e2 : expOf ONE = unit - 52 := by decide
  have e3 : 52 + (unit - 52) = unit := by decide
  unfold V
  rw [e1, e2, ← pow_add', e3]

theorem fmul_one (x : Nat) (hx : x < 2 ^ 64) (h : rungOf x ≤ INF) : fmul x ONE = x := by
  unfold fmul
  have r1 : rungOf ONE = ONE := rfl
  have n1 : negOf ONE = false := rfl
  rcases Nat.lt_or_eq_of_le h with h1 | h1
  · rw [mul_fin x ONE h1 (by decide), n1, r1, Bool.xor_false]
    have v1 := V_one
    have := rn_scale (V (rungOf x)) 1 (2 ^ unit) (Nat.two_pow_pos _)
    rw [Nat.one_mul] at this
    rw [v1, this, rn_exact _ h, Option.getD_some, word_of x hx]
  · rw [mul_inf x ONE h1 (by decide) (by decide), n1, Bool.xor_false, ← h1, Option.getD_some, word_of x hx]

theorem fdiv_one (x : Nat) (hx : x < 2 ^ 64) (h : rungOf x ≤ INF) : fdiv x ONE = x := by
  unfold fdiv
  have r1 : rungOf ONE = ONE := rfl
  have n1 : negOf ONE = false := rfl
  rcases Nat.lt_or_eq_of_le h with h1 | h1
  · rw [div_fin x ONE h1 (by decide) (by decide), n1, r1, Bool.xor_false]
    have v1 := V_one
    have := rn_scale (V (rungOf x)) 1 (2 ^ unit) (Nat.two_pow_pos _)
    rw [Nat.one_mul] at this
    rw [v1, this, rn_exact _ h, Option.getD_some, word_of x hx]
  · rw [div_inf x ONE h1 (by decide), n1, Bool.xor_false, ← h1, Option.getD_some, word_of x hx]

theorem fadd_sign (x : Nat) (hx : x < 2 ^ 64) (h : rungOf x ≤ INF) : fadd x SIGN = x := by
  unfold fadd
  have r1 : rungOf SIGN = 0 := rfl
  have n1 : negOf SIGN = true := rfl
  rcases Nat.lt_or_eq_of_le h with h1 | h1
  · have k1 : K SIGN = 0 := by unfold K; rw [r1, n1, V_zero]; rfl
    rw [add_fin x SIGN h1 (by decide), n1, k1, Int.add_zero, Option.getD_some]
    have ea : (K x).natAbs = V (rungOf x) := by
      unfold K; split <;> simp
    have es : (if K x = 0 then negOf x && true else decide (K x < 0)) = negOf x := by
      unfold K
      by_cases h0 : rungOf x = 0
      · rw [h0, V_zero]; simp
      · have := V_pos (rungOf x) (by omega)
        cases negOf x
        · rw [if_neg (by simp; omega)]
          simp
        · rw [if_neg (by simp; omega)]
          simp; omega
    rw [ea, es, rn_exact _ h, word_of x hx]
  · rw [add_inf x SIGN h1 (by decide), ← h1, Option.getD_some, word_of x hx]

/-- What is below: the difference has a sign. -/
theorem fless_fsub (x y : Nat) (hy : y < 2 ^ 64) (h1 : rungOf x < INF) (h2 : rungOf y < INF) : fless x y = fless (fsub x y) 0 := by
  have h2' : rungOf (flip y) < INF := by rw [rungOf_flip y hy]; exact h2
  have kf : K (flip y) = - K y := by
    unfold K; rw [rungOf_flip y hy, negOf_flip y hy]
    cases negOf y <;> simp
  have e : fsub x y = double.word (if K x - K y = 0 then negOf x && !negOf y else decide (K x - K y < 0)) (rn (K x - K y).natAbs 1) := by
    rw [fsub_flip x y hy]; unfold fadd
    rw [add_fin x (flip y) h1 h2', Option.getD_some, kf, negOf_flip y hy]; rfl
  have hr := rn_lt (K x - K y).natAbs 1
  have hle : rungOf (fsub x y) ≤ INF := by rw [e, rungOf_word _ _ hr]; exact rn_le _ _
  have k0 : K 0 = 0 := by decide
  rw [fless_key x y (by omega) (by omega), fless_key _ 0 hle (by decide), k0]
  unfold K at *
  rw [e, rungOf_word _ _ hr, negOf_word _ _ hr]
  obtain ⟨d, hd⟩ : ∃ d, d = (if negOf x = true then -(V (rungOf x) : Int) else (V (rungOf x) : Int)) - (if negOf y = true then -(V (rungOf y) : Int) else (V (rungOf y) : Int)) := ⟨_, rfl⟩
  rw [← hd]
  have hlt : (decide ((if negOf x = true then -(V (rungOf x) : Int) else (V (rungOf x) : Int)) < (if negOf y = true then -(V (rungOf y) : Int) else (V (rungOf y) : Int)))) = decide (d < 0) := decide_eq_decide.2 (by omega)
  rw [hlt]
  by_cases hz : d = 0
  · rw [hz]
    have : rn (0 : Int).natAbs 1 = 0 := rfl
    rw [this, V_zero]
    simp
  · rw [if_neg hz]
    have hv := V_pos _ (rn_pos d.natAbs (by omega))
    by_cases hn : d < 0
    · simp only [hn, decide_true, if_true]
      simp; omega
    · simp only [hn, decide_false, Bool.false_eq_true, if_false]
      simp
end Go.Proofs.YtfkdaimhdjaefaaDoor.Flt

/- Binary64: whole numbers there and back. -/
namespace Go.Proofs.YtfkdaimhdjaefaaDoor.Flt
open Ieee

def ofInt (n : Int) : Nat := double.nearest (decide (n < 0)) n.natAbs 0
/-- The whole part of a finite float. -/
def part (x : Nat) : Int := if negOf x then -((V (rungOf x) / 2 ^ unit : Nat) : Int) else ((V (rungOf x) / 2 ^ unit : Nat) : Int)
def fwhole (x : Nat) : Int :=
  if INF < rungOf x then 0 else if (2 ^ 63 * 2 ^ unit : Nat) ≤ K x then 2 ^ 63 - 1 else if K x < -(2 ^ 63 * 2 ^ unit : Nat) then -2 ^ 63 else part x

theorem ofInt_eq (n : Int) : ofInt n = double.word (decide (n < 0)) (rn (n.natAbs * 2 ^ unit) 1) := by
  unfold ofInt
  rw [nearest_rn]
  have e1 : ((0 : Int) + 1074).toNat = unit := rfl
  have e2 : (-((0 : Int) + 1074)).toNat = 0 := rfl
  rw [e1, e2, Nat.pow_zero]

theorem cut_zero (neg : Bool) (n d : Nat) : Toward.zero.cut neg n d = n / 2 ^ d := by
  unfold Toward.cut
  by_cases h : d ≤ n.log2 + 2
  · simp only [Nat.min_eq_left h, Nat.one_shiftLeft]
    rfl
  · have hl : n < 2 ^ (n.log2 + 1) := Nat.lt_log2_self
    have h1 : min d (n.log2 + 2) = n.log2 + 2 := Nat.min_eq_right (by omega)
    have hp : 2 ^ (n.log2 + 1) ≤ 2 ^ (n.log2 + 2) := Nat.pow_le_pow_right (by decide) (by omega)
    have hs : 2 ^ (n.log2 + 2) ≤ 2 ^ d := Nat.pow_le_pow_right (by decide) (by omega)
    simp only [h1, Nat.one_shiftLeft]
    rw [Nat.div_eq_of_lt (show n < 2 ^ (n.log2 + 2) by omega), Nat.div_eq_of_lt (show n < 2 ^ d by omega)]
    rfl

theorem toInt_fin (x : Nat) (h : rungOf x < INF) : (double.read x).toInt .zero = some (part x) := by
  rw [read_fin x h]
  unfold Datum.toInt Datum.integral
  simp only [cut_zero]
  unfold part V
  obtain ⟨m, hm⟩ : ∃ m, m = magOf (rungOf x) := ⟨_, rfl⟩
  obtain ⟨e, he⟩ : ∃ e, e = expOf (rungOf x) := ⟨_, rfl⟩
  rw [← hm, ← he]
  have hT : unit = 1074 := rfl
  have key : m <<< (-1074 + (e : Int)).toNat / 2 ^ (-(-1074 + (e : Int))).toNat = m * 2 ^ e / 2 ^ unit := by
    rw [Nat.shiftLeft_eq]
    by_cases hle : e ≤ unit
    · have e1 : (-1074 + (e : Int)).toNat = 0 := by omega
      have e2 : (-(-1074 + (e : Int))).toNat = unit - e := by omega
      have e3 : unit = (unit - e) + e := by omega
      rw [e1, e2, Nat.pow_zero, Nat.mul_one]
      have : m * 2 ^ e / 2 ^ unit = m * 2 ^ e / (2 ^ (unit - e) * 2 ^ e) := by rw [← pow_add', ← e3]
      rw [this, Nat.mul_div_mul_right _ _ (Nat.two_pow_pos e)]
    · have e1 : (-1074 + (e : Int)).toNat = e - unit := by omega
      have e2 : (-(-1074 + (e : Int))).toNat = 0 := by omega
      have e3 : e = (e - unit) + unit := by omega
      rw [e1, e2, Nat.pow_zero, Nat.div_one]
      have : m * 2 ^ e = m * 2 ^ (e - unit) * 2 ^ unit := by rw [Nat.mul_assoc, ← pow_add', ← e3]
      rw [this, Nat.mul_div_cancel _ (Nat.two_pow_pos unit)]
  rw [key, signed_eq, Nat.pow_zero, Nat.mul_one]

theorem rhe_near (A g : Nat) (hg : 0 < g) : 2 * (rhe A g * g) ≤ 2 * A + g ∧ 2 * A ≤ 2 * (rhe A g * g) + g := by
  have h := Nat.div_add_mod A g
  have hr := Nat.mod_lt A hg
  obtain ⟨r, hr'⟩ : ∃ r, r = A % g := ⟨_, rfl⟩
  obtain ⟨q, hq'⟩ : ∃ q, q = A / g := ⟨_, rfl⟩
  unfold rhe
  rw [← hr', ← hq'] at h ⊢
  rw [← hr'] at hr
  rw [Nat.mul_comm] at h
  cases hb : (decide (g < 2 * r) || (g == 2 * r && q % 2 == 1))
  · simp only [Bool.or_eq_false_iff, decide_eq_false_iff_not] at hb
    simp only [Bool.toNat_false, Nat.add_zero]
    omega
  · simp only [Bool.or_eq_true, decide_eq_true_eq, Bool.and_eq_true, beq_iff_eq] at hb
    simp only [Bool.toNat_true, Nat.add_mul, Nat.one_mul]
    omega

theorem log2_le63 (A : Nat) (h0 : A ≠ 0) (h : A ≤ 2 ^ 63) : A.log2 ≤ 63 := by
  have : A.log2 < 64 := (Nat.log2_lt h0).2 (by omega)
  omega

/-- A whole number of at most 2^63, rounded. -/
theorem round_int (A : Nat) (h : A ≤ 2 ^ 63) :
    ∃ B, V (rn (A * 2 ^ unit) 1) = B * 2 ^ unit ∧ A ≤ B + 512 ∧ B ≤ A + 512 ∧ (A ≤ 2 ^ 53 → B = A) ∧ B ≤ 2 ^ 63 ∧ rn (A * 2 ^ unit) 1 < INF := by
  by_cases h0 : A = 0
  · subst h0
    exact ⟨0, by rw [Nat.zero_mul, rn_zero, V_zero], by omega, by omega, fun _ => rfl, by omega, by rw [Nat.zero_mul, rn_zero]; decide⟩
  · have hI : INF = 2047 * 2 ^ 52 := rfl
    have hT : unit = 1074 := rfl
    have hu := Nat.two_pow_pos unit
    have hl := log2_le63 A h0 h
    have hA : A * 2 ^ unit ≠ 0 := Nat.mul_ne_zero h0 (by omega)
    have hlog : (A * 2 ^ unit).log2 = A.log2 + unit := log2_mul_pow A unit h0
    obtain ⟨t, ht⟩ : ∃ t, t = (A * 2 ^ unit).log2 - 52 := ⟨_, rfl⟩
    obtain ⟨k1, k2⟩ := kept_bounds (A * 2 ^ unit)
    rw [← ht] at k1 k2
    have hrn : rn (A * 2 ^ unit) 1 = t * 2 ^ 52 + rhe (A * 2 ^ unit) (2 ^ t) := by
      unfold rn
      rw [if_neg hA, Nat.div_one, Nat.one_mul, ← ht]
      exact Nat.min_eq_left (by omega)
    have hlt : rn (A * 2 ^ unit) 1 < INF := by rw [hrn]; omega
    have hV : V (rn (A * 2 ^ unit) 1) = rhe (A * 2 ^ unit) (2 ^ t) * 2 ^ t := by
      rw [hrn]; exact V_pack t _ k1 k2
    by_cases hs : A.log2 ≤ 52
    · have e1 : A * 2 ^ unit = A * 2 ^ (52 - A.log2) * 2 ^ t := by
        rw [Nat.mul_assoc, ← pow_add']
        have : 52 - A.log2 + t = unit := by omega
        rw [this]
      refine ⟨A, ?_, by omega, by omega, fun _ => rfl, h, hlt⟩
      rw [hV]
      have : rhe (A * 2 ^ unit) (2 ^ t) = A * 2 ^ (52 - A.log2) := by rw [e1]; exact rhe_exact _ _ (Nat.two_pow_pos t)
      rw [this]; exact e1.symm
    · obtain ⟨d, hd⟩ : ∃ d, t = d + unit := ⟨t - unit, by omega⟩
      have hd1 : d = A.log2 - 52 := by omega
      have e1 : rhe (A * 2 ^ unit) (2 ^ t) = rhe A (2 ^ d) := by
        rw [hd, pow_add', rhe_scale _ _ _ hu]
      have e2 : rhe (A * 2 ^ unit) (2 ^ t) * 2 ^ t = rhe A (2 ^ d) * 2 ^ d * 2 ^ unit := by
        rw [e1, hd, pow_add', ← Nat.mul_assoc]
      obtain ⟨n1, n2⟩ := rhe_near A (2 ^ d) (Nat.two_pow_pos d)
      have e3 : 2 ^ 63 = 2 ^ (63 - d) * 2 ^ d := by
        rw [← pow_add']
        have : 63 - d + d = 63 := by omega
        rw [this]
      have hB : rhe A (2 ^ d) * 2 ^ d ≤ 2 ^ 63 := by
        rw [e3]
        apply Nat.mul_le_mul_right
        apply rhe_le _ _ _ (Nat.two_pow_pos d)
        rw [← e3]; exact h
      by_cases hmax : A = 2 ^ 63
      · have e4 : rhe A (2 ^ d) * 2 ^ d = 2 ^ 63 := by
          rw [hmax, e3, rhe_exact _ _ (Nat.two_pow_pos d)]
        refine ⟨2 ^ 63, by rw [hV, e2, e4], by omega, by omega, by omega, by omega, hlt⟩
      · have hl2 : A.log2 ≤ 62 := by
          have : A.log2 < 63 := (Nat.log2_lt h0).2 (by omega)
          omega
        have hg : 2 ^ d ≤ 2 ^ 10 := Nat.pow_le_pow_right (by decide) (by omega)
        refine ⟨rhe A (2 ^ d) * 2 ^ d, by rw [hV, e2], by omega, by omega, ?_, hB, hlt⟩
        intro h53
        have hge : 2 ^ 53 ≤ A := by
          have a1 := Nat.log2_self_le h0
          have a2 : 2 ^ 53 ≤ 2 ^ A.log2 := Nat.pow_le_pow_right (by decide) (by omega)
          omega
        have hA53 : A = 2 ^ 53 := by omega
        have hl53 : A.log2 = 53 := by rw [hA53]; decide
        have hd2 : d = 1 := by omega
        rw [hd2, hA53]; decide

theorem ofInt_fine (n : Int) : rungOf (ofInt n) = rn (n.natAbs * 2 ^ unit) 1 ∧ negOf (ofInt n) = decide (n < 0) ∧ ofInt n < 2 ^ 64 := by
  rw [ofInt_eq]
  exact ⟨rungOf_word _ _ (rn_lt _ _), negOf_word _ _ (rn_lt _ _), (word_fine _ _ (rn_le _ _)).2⟩

theorem fwhole_ofInt (n : Int) (h1 : -2 ^ 63 ≤ n) (h2 : n < 2 ^ 63) :
    (-2 ^ 53 ≤ n → n ≤ 2 ^ 53 → fwhole (ofInt n) = n) ∧ fwhole (ofInt n) ≤ n + 512 ∧ n ≤ fwhole (ofInt n) + 512 ∧ -2 ^ 63 ≤ fwhole (ofInt n) ∧ fwhole (ofInt n) < 2 ^ 63 := by
  obtain ⟨B, b1, b2, b3, b4, b5, b6⟩ := round_int n.natAbs (by omega)
  obtain ⟨r1, r2, r3⟩ := ofInt_fine n
  have hu := Nat.two_pow_pos unit
  have hnn : ¬ INF < rungOf (ofInt n) := by rw [r1]; omega
  have hp : V (rungOf (ofInt n)) / 2 ^ unit = B := by rw [r1, b1, Nat.mul_div_cancel _ hu]
  have hv : V (rungOf (ofInt n)) = B * 2 ^ unit := by rw [r1, b1]
  have hcast : ∀ a : Nat, ((a * 2 ^ unit : Nat) : Int) = (a : Int) * ((2 ^ unit : Nat) : Int) := fun a => Int.natCast_mul a (2 ^ unit)
  have hui : (0 : Int) < ((2 ^ unit : Nat) : Int) := by omega
  have key : fwhole (ofInt n) = if decide (n < 0) = true then -(B : Int) else if (2 ^ 63 : Int) ≤ B then 2 ^ 63 - 1 else B := by
    unfold fwhole K part
    rw [if_neg hnn, r2, hp, hv, hcast, hcast]
    obtain ⟨U, hU⟩ : ∃ U, U = ((2 ^ unit : Nat) : Int) := ⟨_, rfl⟩
    rw [← hU] at hui ⊢
    have e63 : ((2 ^ 63 : Nat) : Int) = 2 ^ 63 := rfl
    rw [e63]
    have b5' : (B : Int) ≤ 2 ^ 63 := by omega
    by_cases hn : n < 0
    · simp only [hn, decide_true, if_true]
      have c1 : ¬ ((2 ^ 63 : Int) * U ≤ -((B : Int) * U)) := by
        have := Int.mul_nonneg (Int.natCast_nonneg B) (Int.le_of_lt hui)
        have := Int.mul_pos (show (0 : Int) < 2 ^ 63 by decide) hui
        omega
      have c2 : ¬ (-((B : Int) * U) < -((2 ^ 63 : Int) * U)) := by
        have := Int.mul_le_mul_of_nonneg_right b5' (Int.le_of_lt hui)
        omega
      rw [if_neg c1, if_neg c2]
    · simp only [hn, decide_false, Bool.false_eq_true, if_false]
      have c2 : ¬ ((B : Int) * U < -((2 ^ 63 : Int) * U)) := by
        have := Int.mul_nonneg (Int.natCast_nonneg B) (Int.le_of_lt hui)
        have := Int.mul_pos (show (0 : Int) < 2 ^ 63 by decide) hui
        omega
      rw [if_neg c2]
      by_cases hb : (2 ^ 63 : Int) ≤ B
      · rw [if_pos hb, if_pos (Int.mul_le_mul_of_nonneg_right hb (Int.le_of_lt hui))]
      · have : ¬ ((2 ^ 63 : Int) * U ≤ (B : Int) * U) := by
          have := Int.mul_lt_mul_of_pos_right (Int.not_le.1 hb) hui
          omega
        rw [if_neg hb, if_neg this]
  rw [key]
  by_cases hn : n < 0
  · simp only [hn, decide_true, if_true]
    exact ⟨fun a _ => by have := b4 (by omega); omega, by omega, by omega, by omega, by omega⟩
  · simp only [hn, decide_false, Bool.false_eq_true, if_false]
    by_cases hb : (2 ^ 63 : Int) ≤ B
    · rw [if_pos hb]
      exact ⟨fun a b => by have := b4 (by omega); omega, by omega, by omega, by omega, by omega⟩
    · rw [if_neg hb]
      exact ⟨fun a b => by have := b4 (by omega); omega, by omega, by omega, by omega, by omega⟩

theorem V_le (a b : Nat) (h : a ≤ b) : V a ≤ V b := by
  rcases Nat.lt_or_eq_of_le h with h1 | h1
  · exact Nat.le_of_lt (V_lt _ _ h1)
  · rw [h1]; exact Nat.le_refl _

theorem K_ofInt (n : Int) : K (ofInt n) = if n < 0 then -(V (rn (n.natAbs * 2 ^ unit) 1) : Int) else (V (rn (n.natAbs * 2 ^ unit) 1) : Int) := by
  obtain ⟨r1, r2, r3⟩ := ofInt_fine n
  unfold K
  rw [r1, r2]
  by_cases hn : n < 0 <;> simp [hn]

theorem K_mono (n m : Int) (h : n ≤ m) : K (ofInt n) ≤ K (ofInt m) := by
  rw [K_ofInt, K_ofInt]
  have step : ∀ a b : Nat, a ≤ b → V (rn (a * 2 ^ unit) 1) ≤ V (rn (b * 2 ^ unit) 1) := fun a b h => V_le _ _ (rn_mono1 _ _ (Nat.mul_le_mul_right _ h))
  by_cases h1 : n < 0 <;> by_cases h2 : m < 0
  · have := step m.natAbs n.natAbs (by omega)
    simp only [h1, h2, if_true]; omega
  · simp only [h1, h2, if_true, if_false]; omega
  · omega
  · have := step n.natAbs m.natAbs (by omega)
    simp only [h1, h2, if_false]; omega

theorem ofInt_le (n : Int) : rungOf (ofInt n) ≤ INF := by
  rw [(ofInt_fine n).1]; exact rn_le _ _

theorem fless_ofInt (n m : Int) (h : n ≤ m) : fless (ofInt m) (ofInt n) = false := by
  rw [fless_key _ _ (ofInt_le m) (ofInt_le n)]
  have := K_mono n m h
  simp; omega

theorem K_small (n : Int) (h1 : -2 ^ 53 ≤ n) (h2 : n ≤ 2 ^ 53) : K (ofInt n) = n * ((2 ^ unit : Nat) : Int) := by
  rw [K_ofInt]
  obtain ⟨B, b1, b2, b3, b4, b5, b6⟩ := round_int n.natAbs (by omega)
  have hB := b4 (by omega)
  rw [b1, hB, Int.natCast_mul]
  by_cases hn : n < 0
  · rw [if_pos hn]
    have : (n.natAbs : Int) = -n := by omega
    rw [this, Int.neg_mul, Int.neg_neg]
  · rw [if_neg hn]
    have : (n.natAbs : Int) = n := by omega
    rw [this]

theorem fless_small (n m : Int) (h : n < m) (h1 : -2 ^ 53 ≤ n) (h2 : m ≤ 2 ^ 53) : fless (ofInt n) (ofInt m) = true := by
  rw [fless_key _ _ (ofInt_le n) (ofInt_le m), K_small n h1 (by omega), K_small m (by omega) h2]
  have hui : (0 : Int) < ((2 ^ unit : Nat) : Int) := by have := Nat.two_pow_pos unit; omega
  exact decide_eq_true (Int.mul_lt_mul_of_pos_right h hui)
end Go.Proofs.YtfkdaimhdjaefaaDoor.Flt

/- Whole numbers as rows of 32 bits, lowest first. -/
namespace Go.Proofs.YtfkdaimhdjaefaaDoor.Flt

def BB : Nat := 4294967296
def val : List Nat → Nat
  | [] => 0
  | x :: r => x + BB * val r
def Dig (l : List Nat) : Prop := ∀ x ∈ l, x < BB
/-- No zero last. -/
def Norm (l : List Nat) : Prop := l.length = 0 ∨ l.getD (l.length - 1) 0 ≠ 0

theorem BB_pow (n : Nat) : 0 < BB ^ n := Nat.pow_pos (by decide)

theorem val_append (l m : List Nat) : val (l ++ m) = val l + BB ^ l.length * val m := by
  induction l with
  | nil => simp [val]
  | cons x r ih =>
    simp only [List.cons_append, val, ih, List.length_cons, Nat.pow_succ]
    rw [Nat.mul_add, Nat.add_assoc, Nat.mul_comm (BB ^ r.length) BB, Nat.mul_assoc]

theorem val_snoc (l : List Nat) (x : Nat) : val (l ++ [x]) = val l + BB ^ l.length * x := by
  rw [val_append]; simp [val]

theorem val_lt (l : List Nat) (h : Dig l) : val l < BB ^ l.length := by
  induction l with
  | nil => simp [val]
  | cons x r ih =>
    have h1 := h x (by simp)
    have h2 := ih (fun y hy => h y (by simp [hy]))
    simp only [val, List.length_cons, Nat.pow_succ]
    have : BB * (val r + 1) ≤ BB * BB ^ r.length := Nat.mul_le_mul_left _ h2
    rw [Nat.mul_add, Nat.mul_one] at this
    rw [Nat.mul_comm (BB ^ r.length) BB]
    omega

theorem take_succ' (l : List Nat) (k : Nat) (h : k < l.length) : l.take (k + 1) = l.take k ++ [l.getD k 0] := by
  rw [List.take_succ_eq_append_getElem h]
  simp [List.getD, h]

theorem val_take_succ (l : List Nat) (k : Nat) (h : k < l.length) : val (l.take (k + 1)) = val (l.take k) + BB ^ k * l.getD k 0 := by
  rw [take_succ' l k h, val_snoc]
  have : (l.take k).length = k := by simp; omega
  rw [this]

theorem dig_getD (l : List Nat) (h : Dig l) (k : Nat) : l.getD k 0 < BB := by
  by_cases hk : k < l.length
  · have : l.getD k 0 = l[k] := by simp [List.getD, hk]
    rw [this]; exact h _ (List.getElem_mem hk)
  · have : l.getD k 0 = 0 := by simp [List.getD, Nat.le_of_not_lt hk]
    rw [this]; decide

theorem dig_take (l : List Nat) (h : Dig l) (k : Nat) : Dig (l.take k) := fun x hx => h x (List.mem_of_mem_take hx)
theorem dig_snoc (l : List Nat) (x : Nat) (h : Dig l) (hx : x < BB) : Dig (l ++ [x]) := fun y hy => by
  rcases List.mem_append.1 hy with h1 | h1
  · exact h y h1
  · simp at h1; subst h1; exact hx

theorem norm_ge (l : List Nat) (hn : Norm l) (h0 : l.length ≠ 0) : BB ^ (l.length - 1) ≤ val l := by
  rcases hn with h | h
  · exact absurd h h0
  · have e : l = l.take (l.length - 1) ++ [l.getD (l.length - 1) 0] := by
      have := take_succ' l (l.length - 1) (by omega)
      rw [show l.length - 1 + 1 = l.length by omega, List.take_length] at this
      exact this
    rw [e, val_snoc]
    have hl : (l.take (l.length - 1)).length = l.length - 1 := by simp
    rw [← e, hl]
    have : BB ^ (l.length - 1) * 1 ≤ BB ^ (l.length - 1) * l.getD (l.length - 1) 0 := Nat.mul_le_mul_left _ (by omega)
    omega

/-- How long a number is. -/
theorem norm_len (l : List Nat) (hn : Norm l) (k : Nat) (h : val l < BB ^ k) : l.length ≤ k := by
  rcases Nat.lt_or_ge k l.length with h1 | h1
  · exfalso
    have h2 := norm_ge l hn (by omega)
    have h3 : BB ^ k ≤ BB ^ (l.length - 1) := Nat.pow_le_pow_right (by decide) (by omega)
    omega
  · exact h1

theorem norm_zero (l : List Nat) (hn : Norm l) : l.length = 0 ↔ val l = 0 := by
  constructor
  · intro h
    have : l = [] := List.eq_nil_of_length_eq_zero h
    rw [this]; rfl
  · intro h
    rcases Nat.eq_zero_or_pos l.length with h1 | h1
    · exact h1
    · have := norm_ge l hn (by omega)
      have := BB_pow (l.length - 1)
      omega

/-- Longer is greater. -/
theorem val_lt_len (l m : List Nat) (hm : Norm m) (dl : Dig l) (h : l.length < m.length) : val l < val m := by
  have h1 := val_lt l dl
  have h2 := norm_ge m hm (by omega)
  have h3 : BB ^ l.length ≤ BB ^ (m.length - 1) := Nat.pow_le_pow_right (by decide) (by omega)
  omega

theorem val_drop (l : List Nat) (k : Nat) (h : k ≤ l.length) : val l = val (l.take k) + BB ^ k * val (l.drop k) := by
  have e : val l = val (l.take k ++ l.drop k) := by rw [List.take_append_drop]
  rw [e, val_append]
  have hl : (l.take k).length = k := by simp; omega
  rw [hl]

theorem drop_cons (l : List Nat) (k : Nat) (h : k < l.length) : l.drop k = l.getD k 0 :: l.drop (k + 1) := by
  rw [List.drop_eq_getElem_cons h]
  simp [List.getD, h]

/-- Two of one length, alike above the place k: the place decides. -/
theorem val_top (l m : List Nat) (k : Nat) (dl : Dig l) (hl : k < l.length) (hm : k < m.length) (ha : l.drop (k + 1) = m.drop (k + 1)) (hlt : l.getD k 0 < m.getD k 0) : val l < val m := by
  rw [val_drop l k (by omega), val_drop m k (by omega), drop_cons l k hl, drop_cons m k hm, ha]
  simp only [val]
  have h1 := val_lt (l.take k) (dig_take l dl k)
  have e1 : (l.take k).length = k := by simp; omega
  rw [e1] at h1
  have h2 : BB ^ k * (l.getD k 0 + BB * val (m.drop (k + 1)) + 1) ≤ BB ^ k * (m.getD k 0 + BB * val (m.drop (k + 1))) := Nat.mul_le_mul_left _ (by omega)
  rw [Nat.mul_add (BB ^ k) (l.getD k 0 + BB * val (m.drop (k + 1))) 1, Nat.mul_one] at h2
  omega

theorem val_zeros (n : Nat) : val (List.replicate n 0) = 0 := by
  induction n with
  | zero => rfl
  | succ n ih => rw [List.replicate_succ]; simp [val, ih]

theorem BB_two (n : Nat) : BB ^ n = 2 ^ (32 * n) := by
  rw [Nat.pow_mul]; rfl

/-- One more digit of a product. -/
theorem times_step (V P C x m k : Nat) (h : V + BB ^ k * C = m * P) : V + BB ^ k * ((C + x * m) % BB) + BB ^ (k + 1) * ((C + x * m) / BB) = m * (P + BB ^ k * x) := by
  have e := Nat.div_add_mod (C + x * m) BB
  have e2 : BB ^ (k + 1) * ((C + x * m) / BB) = BB ^ k * (BB * ((C + x * m) / BB)) := by rw [Nat.pow_succ, Nat.mul_assoc]
  have e3 : BB ^ k * ((C + x * m) % BB) + BB ^ k * (BB * ((C + x * m) / BB)) = BB ^ k * (C + x * m) := by rw [← Nat.mul_add, Nat.add_comm, e]
  rw [e2, Nat.add_assoc, e3, Nat.mul_add, ← Nat.add_assoc, h, Nat.mul_add]
  have e5 : BB ^ k * (x * m) = m * (BB ^ k * x) := by rw [Nat.mul_comm x m, Nat.mul_left_comm]
  rw [e5]

/-- .. of a sum. -/
theorem sum_step (V S C t k : Nat) (h : V + BB ^ k * C = S) : V + BB ^ k * ((C + t) % BB) + BB ^ (k + 1) * ((C + t) / BB) = S + BB ^ k * t := by
  have e := Nat.div_add_mod (C + t) BB
  have e2 : BB ^ (k + 1) * ((C + t) / BB) = BB ^ k * (BB * ((C + t) / BB)) := by rw [Nat.pow_succ, Nat.mul_assoc]
  have e3 : BB ^ k * ((C + t) % BB) + BB ^ k * (BB * ((C + t) / BB)) = BB ^ k * (C + t) := by rw [← Nat.mul_add, Nat.add_comm, e]
  rw [e2, Nat.add_assoc, e3, Nat.mul_add, ← Nat.add_assoc, h]

/-- .. of a difference; d is what is owed (0 or 1). -/
theorem less_step (V A S d x y k : Nat) (_hd : d ≤ 1) (_hx : x < BB) (_hy : y < BB) (h : V + S = A + BB ^ k * d) :
    V + BB ^ k * ((x + BB - y - d) % BB) + (S + BB ^ k * y) = A + BB ^ k * x + BB ^ (k + 1) * (if x < y + d then 1 else 0) := by
  have hB : BB = 4294967296 := rfl
  have e2 : BB ^ (k + 1) * (if x < y + d then 1 else 0) = BB ^ k * (BB * (if x < y + d then 1 else 0)) := by rw [Nat.pow_succ, Nat.mul_assoc]
  rw [e2]
  have e3 : (x + BB - y - d) % BB + y + d = x + BB * (if x < y + d then 1 else 0) := by
    split
    · rw [Nat.mod_eq_of_lt (by omega)]; omega
    · have : x + BB - y - d = (x - y - d) + BB := by omega
      rw [this, Nat.add_mod_right, Nat.mod_eq_of_lt (by omega)]; omega
  have e4 := congrArg (BB ^ k * ·) e3
  simp only [Nat.mul_add] at e4
  omega
end Go.Proofs.YtfkdaimhdjaefaaDoor.Flt

/- Whole numbers, bit by bit. -/
namespace Go.Proofs.YtfkdaimhdjaefaaDoor.Flt

/-- How many digits k bits take. -/
def words (k : Nat) : Nat := (k + 31) / 32

theorem words_mul (k : Nat) (h : k % 32 = 0) : words k = k / 32 ∧ words (k + 1) = k / 32 + 1 := by unfold words; omega
theorem words_not (k : Nat) (h : k % 32 ≠ 0) : words k = k / 32 + 1 ∧ words (k + 1) = k / 32 + 1 := by unfold words; omega

/-- L are the first k bits of V. -/
def Bits (L : List Nat) (k V : Nat) : Prop := L.length = words k ∧ Dig L ∧ val L = V % 2 ^ k

theorem bits_zero (V : Nat) : Bits [] 0 V := ⟨rfl, fun y hy => by simp at hy, by simp [val, Nat.mod_one]⟩

theorem mod_succ (V k : Nat) : V % 2 ^ (k + 1) = V % 2 ^ k + 2 ^ k * (V / 2 ^ k % 2) := by
  rw [Nat.pow_succ, Nat.mod_mul]

theorem bits_push (L : List Nat) (k V z : Nat) (h : Bits L k V) (hk : k % 32 = 0) (hz : z = V / 2 ^ k % 2) : Bits (L ++ [z]) (k + 1) V := by
  obtain ⟨h1, h2, h3⟩ := h
  obtain ⟨w1, w2⟩ := words_mul k hk
  have hz2 : z < 2 := by rw [hz]; exact Nat.mod_lt _ (by decide)
  refine ⟨by simp [h1, w1, w2], dig_snoc L z h2 (Nat.lt_trans hz2 (by decide)), ?_⟩
  rw [val_snoc, h3, mod_succ, h1, w1, ← hz, BB_two]
  have : 32 * (k / 32) = k := by omega
  rw [this]

theorem val_set (L : List Nat) (t x : Nat) (ht : t < L.length) : val (L.set t (L.getD t 0 + x)) = val L + BB ^ t * x := by
  induction L generalizing t with
  | nil => simp at ht
  | cons a r ih =>
    cases t with
    | zero => simp [val]; omega
    | succ t =>
      have := ih t (by simpa using ht)
      simp only [List.set_cons_succ, val, List.getD_cons_succ]
      rw [this, Nat.mul_add, Nat.pow_succ, ← Nat.add_assoc, ← Nat.mul_assoc, Nat.mul_comm (BB ^ t) BB]

theorem top_small (L : List Nat) (k V : Nat) (h : Bits L k V) (hk : k % 32 ≠ 0) : L.getD (k / 32) 0 < 2 ^ (k % 32) := by
  obtain ⟨h1, h2, h3⟩ := h
  obtain ⟨w1, -⟩ := words_not k hk
  rw [w1] at h1
  have e := val_take_succ L (k / 32) (by omega)
  rw [← h1, List.take_length] at e
  have hlt : val L < 2 ^ k := by rw [h3]; exact Nat.mod_lt _ (Nat.two_pow_pos k)
  have hk2 : k = 32 * (k / 32) + k % 32 := by omega
  have hp : 2 ^ k = BB ^ (k / 32) * 2 ^ (k % 32) := by
    rw [BB_two, ← pow_add', ← hk2]
  rw [hp] at hlt
  rcases Nat.lt_or_ge (L.getD (k / 32) 0) (2 ^ (k % 32)) with h | h
  · exact h
  · exfalso
    have := Nat.mul_le_mul_left (BB ^ (k / 32)) h
    omega

theorem bits_set (L : List Nat) (k V z : Nat) (h : Bits L k V) (hk : k % 32 ≠ 0) (hz : z = V / 2 ^ k % 2) : Bits (L.set (k / 32) (L.getD (k / 32) 0 + z * 2 ^ (k % 32))) (k + 1) V := by
  have hs := top_small L k V h hk
  obtain ⟨h1, h2, h3⟩ := h
  obtain ⟨w1, w2⟩ := words_not k hk
  have hz2 : z < 2 := by rw [hz]; exact Nat.mod_lt _ (by decide)
  have hp : 2 ^ (k % 32) ≤ 2 ^ 31 := Nat.pow_le_pow_right (by decide) (by omega)
  have hlt : L.getD (k / 32) 0 + z * 2 ^ (k % 32) < BB := by
    have : z * 2 ^ (k % 32) ≤ 1 * 2 ^ (k % 32) := Nat.mul_le_mul_right _ (by omega)
    unfold BB; omega
  refine ⟨by rw [List.length_set, h1, w1, w2], fun y hy => ?_, ?_⟩
  · rcases List.mem_or_eq_of_mem_set hy with h | h
    · exact h2 y h
    · rw [h]; exact hlt
  · rw [val_set L _ _ (by omega), h3, mod_succ, ← hz, BB_two]
    have hk2 : k = 32 * (k / 32) + k % 32 := by omega
    have : 2 ^ (32 * (k / 32)) * (z * 2 ^ (k % 32)) = 2 ^ k * z := by
      rw [Nat.mul_comm z, ← Nat.mul_assoc, ← pow_add', ← hk2]
    rw [this]

theorem or_bit32 (x z r : Nat) (hx : x < 2 ^ r) : x ||| (z * 2 ^ r) = x + z * 2 ^ r := by
  have h := Nat.shiftLeft_add_eq_or_of_lt hx z
  rw [Nat.shiftLeft_eq] at h
  rw [Nat.or_comm, ← h, Nat.add_comm]

/-- A digit's bit is the number's. -/
theorem digit_bit (l : List Nat) (i : Nat) (hd : i / 32 < l.length) (hdig : Dig l) : l.getD (i / 32) 0 / 2 ^ (i % 32) % 2 = val l / 2 ^ i % 2 := by
  have e := val_drop l (i / 32) (by omega)
  have h1 := val_lt (l.take (i / 32)) (dig_take l hdig _)
  have h2 : (l.take (i / 32)).length = i / 32 := by simp; omega
  rw [h2] at h1
  have hi : i = 32 * (i / 32) + i % 32 := by omega
  have hp : 2 ^ i = BB ^ (i / 32) * 2 ^ (i % 32) := by rw [BB_two, ← pow_add', ← hi]
  have e2 : val l / BB ^ (i / 32) = val (l.drop (i / 32)) := by
    rw [e, Nat.add_comm, Nat.mul_add_div (BB_pow _), Nat.div_eq_of_lt h1, Nat.add_zero]
  rw [hp, ← Nat.div_div_eq_div_mul, e2, drop_cons l _ hd]
  simp only [val]
  have hr : i % 32 < 32 := Nat.mod_lt _ (by decide)
  have hB : BB = 2 ^ (31 - i % 32) * 2 * 2 ^ (i % 32) := by
    rw [Nat.mul_assoc, Nat.mul_comm 2, ← Nat.pow_succ, ← pow_add']
    have : 31 - i % 32 + (i % 32).succ = 32 := by omega
    rw [this]; rfl
  have e3 : l.getD (i / 32) 0 + BB * val (l.drop (i / 32 + 1)) = l.getD (i / 32) 0 + 2 ^ (i % 32) * (2 * (2 ^ (31 - i % 32) * val (l.drop (i / 32 + 1)))) := by
    rw [hB]
    congr 1
    rw [Nat.mul_comm (2 ^ (31 - i % 32) * 2), Nat.mul_comm (2 ^ (31 - i % 32)) 2, Nat.mul_assoc, Nat.mul_assoc]
  rw [e3, Nat.add_mul_div_left _ _ (Nat.two_pow_pos _), Nat.add_mul_mod_self_left]

theorem bits_end (L : List Nat) (k V : Nat) (h : Bits L k V) (hV : V < 2 ^ k) : val L = V := by
  rw [h.2.2, Nat.mod_eq_of_lt hV]
end Go.Proofs.YtfkdaimhdjaefaaDoor.Flt

/- Rounding as the document's answer does it. -/
namespace Go.Proofs.YtfkdaimhdjaefaaDoor.Flt

def bitsM (n : Nat) : Nat := if n = 0 then 0 else n.log2 + 1

/-- The parts of a rung. -/
theorem rung_parts (mag : Nat) (place : Int) (h0 : mag ≠ 0) (L : Int) (T : Nat) (hL : L = max (place + (mag.log2 : Int) - 52) (-1074)) (hT : (L + 1074).toNat = T) :
    ((mag * 2 ^ (place + 1074).toNat) / (2 ^ (-(place + 1074)).toNat)).log2 - 52 = T ∧
    rhe (mag * 2 ^ (place - L).toNat) (2 ^ (L - place).toNat) = rhe (mag * 2 ^ (place + 1074).toNat) (2 ^ (-(place + 1074)).toNat * 2 ^ T) := by
  have hLT : L = (T : Int) - 1074 := by omega
  constructor
  · by_cases hz : 0 ≤ place + 1074
    · have : (-(place + 1074)).toNat = 0 := by omega
      rw [this, Nat.pow_zero, Nat.div_one, log2_mul_pow _ _ h0]
      omega
    · have : (place + 1074).toNat = 0 := by omega
      rw [this, Nat.pow_zero, Nat.mul_one]
      by_cases hk : (-(place + 1074)).toNat ≤ mag.log2
      · rw [log2_div_pow _ _ hk h0]; omega
      · have hlt : mag / 2 ^ (-(place + 1074)).toNat = 0 := by
          apply Nat.div_eq_of_lt
          have h1 : mag < 2 ^ (mag.log2 + 1) := Nat.lt_log2_self
          have h2 : 2 ^ (mag.log2 + 1) ≤ 2 ^ (-(place + 1074)).toNat := Nat.pow_le_pow_right (by decide) (by omega)
          omega
        rw [hlt]
        have : Nat.log2 0 = 0 := by decide
        rw [this]; omega
  · rw [← pow_add']
    obtain ⟨a, ha⟩ : ∃ a, a = (place + 1074).toNat := ⟨_, rfl⟩
    obtain ⟨b, hb⟩ : ∃ b, b = (-(place + 1074)).toNat := ⟨_, rfl⟩
    obtain ⟨u, hu⟩ : ∃ u, u = (place - L).toNat := ⟨_, rfl⟩
    obtain ⟨d, hd⟩ : ∃ d, d = (L - place).toNat := ⟨_, rfl⟩
    rw [← ha, ← hb, ← hu, ← hd]
    have hs : u + (b + T) = a + d := by omega
    by_cases hud : u = 0
    · subst hud
      rw [Nat.pow_zero, Nat.mul_one]
      have h3 : b + T = d + a := by omega
      rw [h3, pow_add' d a, rhe_scale _ _ _ (Nat.two_pow_pos a)]
    · have hd0 : d = 0 := by omega
      subst hd0
      have h3 : a = u + (b + T) := by omega
      rw [h3, pow_add' u (b + T), ← Nat.mul_assoc, Nat.pow_zero, rhe_one, rhe_exact _ _ (Nat.two_pow_pos (b + T))]

/-- How far the last bit that is kept lies. -/
def offR (Q : Nat) (e : Int) : Int := max ((bitsM Q : Int) - 53) (-1074 - e)
/-- What is kept. -/
def keptR (Q : Nat) (s : Bool) (e : Int) : Nat := if offR Q e ≤ 0 then Q * 2 ^ (-offR Q e).toNat else keep Q s (offR Q e).toNat
def rungR (Q : Nat) (s : Bool) (e : Int) : Nat :=
  if keptR Q s e < 2 ^ 52 then keptR Q s e
  else if 2047 ≤ e + offR Q e + 1075 then INF
  else min ((e + offR Q e + 1075).toNat * 2 ^ 52 + (keptR Q s e - 2 ^ 52)) INF

theorem log2_double (Q : Nat) (s : Bool) (h : Q ≠ 0) : (2 * Q + s.toNat).log2 = Q.log2 + 1 := by
  have hs : s.toNat ≤ 1 := by cases s <;> simp
  have h1 := Nat.log2_self_le h
  have h2 : Q < 2 ^ (Q.log2 + 1) := Nat.lt_log2_self
  refine (Nat.log2_eq_iff (by omega)).2 ⟨?_, ?_⟩
  · rw [Nat.pow_succ]; omega
  · rw [Nat.pow_succ]; omega

theorem rungR_rn (Q : Nat) (s : Bool) (e : Int) (hQ : Q ≠ 0) (hs : s = true → 2 ^ 53 ≤ Q) :
    rungR Q s e = rn ((2 * Q + s.toNat) * 2 ^ (e + 1074).toNat) (2 * 2 ^ (-(e + 1074)).toNat) := by
  have hmag : 2 * Q + s.toNat ≠ 0 := by omega
  obtain ⟨L, hL⟩ : ∃ L, L = max (e - 1 + ((2 * Q + s.toNat).log2 : Int) - 52) (-1074) := ⟨_, rfl⟩
  obtain ⟨T, hT⟩ : ∃ T, (L + 1074).toNat = T := ⟨_, rfl⟩
  obtain ⟨p1, p2⟩ := rung_parts (2 * Q + s.toNat) (e - 1) hmag L T hL hT
  rw [log2_double Q s hQ] at hL
  have hoff : offR Q e = L - e := by
    unfold offR bitsM
    rw [if_neg hQ]; omega
  -- what is kept
  have hk : keptR Q s e = rhe ((2 * Q + s.toNat) * 2 ^ (e - 1 - L).toNat) (2 ^ (L - (e - 1)).toNat) := by
    unfold keptR
    rw [hoff]
    by_cases h0 : L - e ≤ 0
    · rw [if_pos h0]
      have hsf : s = false := by
        cases s
        · rfl
        · exfalso
          have h1 : 53 ≤ Q.log2 := (Nat.le_log2 hQ).2 (hs rfl)
          omega
      subst hsf
      simp only [Bool.toNat_false, Nat.add_zero]
      by_cases h1 : L - e = 0
      · have e1 : (e - 1 - L).toNat = 0 := by omega
        have e2 : (L - (e - 1)).toNat = 1 := by omega
        have e3 : (-(L - e)).toNat = 0 := by omega
        rw [e1, e2, e3, Nat.pow_zero, Nat.mul_one, Nat.mul_one, Nat.mul_comm 2 Q]
        exact (rhe_exact Q (2 ^ 1) (by decide)).symm
      · obtain ⟨u, hu⟩ : ∃ u, u = (e - 1 - L).toNat := ⟨_, rfl⟩
        have e2 : (L - (e - 1)).toNat = 0 := by omega
        have e3 : (-(L - e)).toNat = u + 1 := by omega
        rw [← hu, e2, e3, Nat.pow_zero, rhe_one, Nat.pow_succ, Nat.mul_comm 2 Q, Nat.mul_assoc, Nat.mul_comm 2]
    · rw [if_neg h0]
      have e1 : (e - 1 - L).toNat = 0 := by omega
      obtain ⟨d, hd⟩ : ∃ d, d = (L - e).toNat := ⟨_, rfl⟩
      have e2 : (L - (e - 1)).toNat = d + 1 := by omega
      rw [← hd, e1, e2, Nat.pow_zero, Nat.mul_one, Nat.pow_succ, Nat.mul_comm (2 ^ d) 2, rhe_keep _ 2 d (by decide) (by omega)]
      have hq2 : (2 * Q + s.toNat) / 2 = Q := by cases s <;> simp <;> omega
      have hq3 : ((2 * Q + s.toNat) % 2 != 0) = s := by
        cases s
        · simp
        · have : (2 * Q + Bool.toNat true) % 2 = 1 := by simp only [Bool.toNat_true]; omega
          rw [this]; rfl
      rw [hq2, hq3]
  rw [p2] at hk
  -- the same fraction
  have hfr : rn ((2 * Q + s.toNat) * 2 ^ (e + 1074).toNat) (2 * 2 ^ (-(e + 1074)).toNat) = rn ((2 * Q + s.toNat) * 2 ^ (e - 1 + 1074).toNat) (2 ^ (-(e - 1 + 1074)).toNat) := by
    by_cases ha : 1 ≤ e + 1074
    · obtain ⟨u, hu⟩ : ∃ u, u = (e - 1 + 1074).toNat := ⟨_, rfl⟩
      have e1 : (e + 1074).toNat = u + 1 := by omega
      have e2 : (-(e + 1074)).toNat = 0 := by omega
      have e3 : (-(e - 1 + 1074)).toNat = 0 := by omega
      rw [← hu, e1, e2, e3, Nat.pow_zero, Nat.mul_one, Nat.pow_succ, ← Nat.mul_assoc]
      have := rn_scale ((2 * Q + s.toNat) * 2 ^ u) 1 2 (by decide)
      rw [Nat.one_mul] at this
      exact this
    · obtain ⟨u, hu⟩ : ∃ u, u = (-(e + 1074)).toNat := ⟨_, rfl⟩
      have e1 : (e + 1074).toNat = 0 := by omega
      have e2 : (e - 1 + 1074).toNat = 0 := by omega
      have e3 : (-(e - 1 + 1074)).toNat = u + 1 := by omega
      rw [← hu, e1, e2, e3, Nat.pow_succ, Nat.mul_comm 2 (2 ^ u)]
  rw [hfr]
  obtain ⟨A, hA⟩ : ∃ A, A = (2 * Q + s.toNat) * 2 ^ (e - 1 + 1074).toNat := ⟨_, rfl⟩
  obtain ⟨Bd, hBd⟩ : ∃ B, B = 2 ^ (-(e - 1 + 1074)).toNat := ⟨_, rfl⟩
  rw [← hA, ← hBd] at p1 hk ⊢
  have hB0 : 0 < Bd := by rw [hBd]; exact Nat.two_pow_pos _
  have hA0 : A ≠ 0 := by rw [hA]; exact Nat.mul_ne_zero hmag (by have := Nat.two_pow_pos (e - 1 + 1074).toNat; omega)
  unfold rn
  rw [if_neg hA0, p1, ← hk]
  have hT2 : e + offR Q e + 1074 = (T : Int) := by rw [hoff]; omega
  have hlow : T = 0 ∨ 2 ^ 52 ≤ keptR Q s e := by
    by_cases hT0 : T = 0
    · exact .inl hT0
    · right
      rw [hk]
      apply le_rhe _ _ _ (Nat.mul_pos hB0 (Nat.two_pow_pos T))
      have hl : (A / Bd).log2 = T + 52 := by omega
      have hne : A / Bd ≠ 0 := by
        intro h
        rw [h] at hl
        have : Nat.log2 0 = 0 := by decide
        omega
      have h1 := Nat.log2_self_le hne
      rw [hl] at h1
      have h2 := (Nat.le_div_iff_mul_le hB0).1 h1
      have e1 : 2 ^ 52 * (Bd * 2 ^ T) = 2 ^ (T + 52) * Bd := by
        rw [pow_add', Nat.mul_comm (2 ^ T), Nat.mul_assoc, Nat.mul_comm Bd]
      rw [e1]; exact h2
  have hI : INF = 2047 * 2 ^ 52 := rfl
  unfold rungR
  by_cases hc : keptR Q s e < 2 ^ 52
  · have hT0 : T = 0 := by omega
    rw [if_pos hc, hT0, Nat.zero_mul, Nat.zero_add]
    exact (Nat.min_eq_left (by omega)).symm
  · rw [if_neg hc]
    by_cases hd : 2047 ≤ e + offR Q e + 1075
    · rw [if_pos hd, hI]
      refine (Nat.min_eq_right ?_).symm
      have : 2046 ≤ T := by omega
      have := Nat.mul_le_mul_right (2 ^ 52) this
      omega
    · rw [if_neg hd]
      have e1 : (e + offR Q e + 1075).toNat = T + 1 := by omega
      have e2 : (T + 1) * 2 ^ 52 + (keptR Q s e - 2 ^ 52) = T * 2 ^ 52 + keptR Q s e := by omega
      rw [e1, e2, hI]
end Go.Proofs.YtfkdaimhdjaefaaDoor.Flt

/- What the document's answer reckons, and the closed forms. -/
namespace Go.Proofs.YtfkdaimhdjaefaaDoor.Flt
open Ieee

theorem rn_shift (A n u v u' v' : Nat) (h : u + v' = u' + v) : rn (A * 2 ^ u) (n * 2 ^ v) = rn (A * 2 ^ u') (n * 2 ^ v') := by
  rw [← rn_scale (A * 2 ^ u) (n * 2 ^ v) (2 ^ v') (Nat.two_pow_pos _), ← rn_scale (A * 2 ^ u') (n * 2 ^ v') (2 ^ v) (Nat.two_pow_pos _)]
  rw [Nat.mul_assoc, Nat.mul_assoc, Nat.mul_assoc, Nat.mul_assoc, ← pow_add', ← pow_add', ← pow_add', ← pow_add', h, Nat.add_comm v v']

/-- What 'rounded' tells of a whole number, without a rest. -/
theorem rungQ_false (Q : Nat) (e : Int) (u v : Nat) (h : (u : Int) - v = e + 1074) : (if Q = 0 then 0 else rungR Q false e) = rn (Q * 2 ^ u) (2 ^ v) := by
  by_cases h0 : Q = 0
  · rw [if_pos h0, h0, Nat.zero_mul]; rfl
  · rw [if_neg h0, rungR_rn Q false e h0 (by simp)]
    simp only [Bool.toNat_false, Nat.add_zero]
    rw [Nat.mul_comm 2 Q, Nat.mul_right_comm, Nat.mul_comm 2 (2 ^ _), rn_scale _ _ 2 (by decide)]
    have := rn_shift Q 1 (e + 1074).toNat (-(e + 1074)).toNat u v (by omega)
    rw [Nat.one_mul, Nat.one_mul] at this
    exact this

theorem mag_exp (r : Nat) (h : r < INF) : magOf r < 2 ^ 53 ∧ expOf r ≤ 2045 := by
  obtain ⟨h1, h2, h3⟩ := rung_pack r
  refine ⟨h2, ?_⟩
  have hI : INF = 2047 * 2 ^ 52 := rfl
  unfold expOf
  split
  · omega
  · omega

theorem mag_zero (r : Nat) : magOf r = 0 ↔ r = 0 := by
  unfold magOf
  split
  · exact Iff.rfl
  · omega

theorem word_sgn (s : Bool) (r : Nat) (h : r < 2 ^ 63) : negOf (double.word s r) = s ∧ rungOf (double.word s r) = r := ⟨negOf_word s r h, rungOf_word s r h⟩

/-- The sum. -/
theorem V_at (r k : Nat) (h : k ≤ expOf r) : V r = magOf r * 2 ^ (expOf r - k) * 2 ^ k := by
  unfold V
  rw [Nat.mul_assoc, ← pow_add', Nat.sub_add_cancel h]

theorem add_same (x y : Nat) (hx : rungOf x < INF) (hy : rungOf y < INF) (h0 : ¬ (rungOf x = 0 ∧ rungOf y = 0)) (hs : negOf x = negOf y) (k : Nat) (h1 : k ≤ expOf (rungOf x)) (h2 : k ≤ expOf (rungOf y)) :
    fadd x y = double.word (negOf x) (rn ((magOf (rungOf x) * 2 ^ (expOf (rungOf x) - k) + magOf (rungOf y) * 2 ^ (expOf (rungOf y) - k)) * 2 ^ k) 1) := by
  unfold fadd
  rw [add_fin x y hx hy, Nat.add_mul, ← V_at _ k h1, ← V_at _ k h2]
  have p : 0 < V (rungOf x) + V (rungOf y) := by
    by_cases hz : rungOf x = 0
    · have := V_pos (rungOf y) (by omega); omega
    · have := V_pos (rungOf x) (by omega); omega
  unfold K
  rw [← hs]
  cases negOf x
  · simp only [Bool.false_eq_true, if_false]
    rw [if_neg (by omega), show decide ((V (rungOf x) : Int) + (V (rungOf y) : Int) < 0) = false by rw [decide_eq_false_iff_not]; omega]
    rw [show ((V (rungOf x) : Int) + (V (rungOf y) : Int)).natAbs = V (rungOf x) + V (rungOf y) by omega]
    rfl
  · simp only [if_true]
    rw [if_neg (by omega), show decide (-(V (rungOf x) : Int) + -(V (rungOf y) : Int) < 0) = true by rw [decide_eq_true_iff]; omega]
    rw [show (-(V (rungOf x) : Int) + -(V (rungOf y) : Int)).natAbs = V (rungOf x) + V (rungOf y) by omega]
    rfl

theorem add_zeros (x y : Nat) (hx : rungOf x = 0) (hy : rungOf y = 0) : fadd x y = double.word (negOf x && negOf y) 0 := by
  unfold fadd
  have hI : INF = 2047 * 2 ^ 52 := rfl
  rw [add_fin x y (by omega) (by omega)]
  unfold K
  rw [hx, hy, V_zero]
  have : ∀ s : Bool, (if s = true then -((0 : Nat) : Int) else ((0 : Nat) : Int)) = 0 := by intro s; cases s <;> rfl
  rw [this, this]
  rfl

theorem add_apart (x y : Nat) (hx : rungOf x < INF) (hy : rungOf y < INF) (hs : negOf x ≠ negOf y) (k : Nat) (h1 : k ≤ expOf (rungOf x)) (h2 : k ≤ expOf (rungOf y)) (X Y : Nat)
    (hX : X = magOf (rungOf x) * 2 ^ (expOf (rungOf x) - k)) (hY : Y = magOf (rungOf y) * 2 ^ (expOf (rungOf y) - k)) :
    fadd x y = if X = Y then 0 else if Y < X then double.word (negOf x) (rn ((X - Y) * 2 ^ k) 1) else double.word (negOf y) (rn ((Y - X) * 2 ^ k) 1) := by
  unfold fadd
  have hp := Nat.two_pow_pos k
  have eX : V (rungOf x) = X * 2 ^ k := by rw [hX]; exact V_at _ k h1
  have eY : V (rungOf y) = Y * 2 ^ k := by rw [hY]; exact V_at _ k h2
  rw [add_fin x y hx hy]
  unfold K
  rw [eX, eY]
  have hny : negOf y = !negOf x := by cases hh : negOf x <;> cases hh' : negOf y <;> simp_all
  rw [hny]
  generalize 2 ^ k = p at *
  rcases Nat.lt_trichotomy X Y with h | h | h
  · have hl : X * p < Y * p := Nat.mul_lt_mul_of_pos_right h hp
    rw [if_neg (show ¬ X = Y by omega), if_neg (show ¬ Y < X by omega), Nat.sub_mul]
    cases negOf x
    · simp only [Bool.not_false, if_true, Bool.false_eq_true, if_false]
      rw [if_neg (by omega), show decide (((X * p : Nat) : Int) + -((Y * p : Nat) : Int) < 0) = true by rw [decide_eq_true_iff]; omega]
      rw [show (((X * p : Nat) : Int) + -((Y * p : Nat) : Int)).natAbs = Y * p - X * p by omega]
      rfl
    · simp only [Bool.not_true, if_true, Bool.false_eq_true, if_false]
      rw [if_neg (by omega), show decide (-((X * p : Nat) : Int) + ((Y * p : Nat) : Int) < 0) = false by rw [decide_eq_false_iff_not]; omega]
      rw [show (-((X * p : Nat) : Int) + ((Y * p : Nat) : Int)).natAbs = Y * p - X * p by omega]
      rfl
  · rw [if_pos h, h]
    cases negOf x
    · simp only [Bool.not_false, if_true, Bool.false_eq_true, if_false]
      rw [if_pos (by omega), show (((Y * p : Nat) : Int) + -((Y * p : Nat) : Int)).natAbs = 0 by omega]
      rfl
    · simp only [Bool.not_true, if_true, Bool.false_eq_true, if_false]
      rw [if_pos (by omega), show (-((Y * p : Nat) : Int) + ((Y * p : Nat) : Int)).natAbs = 0 by omega]
      rfl
  · have hl : Y * p < X * p := Nat.mul_lt_mul_of_pos_right h hp
    rw [if_neg (show ¬ X = Y by omega), if_pos h, Nat.sub_mul]
    cases negOf x
    · simp only [Bool.not_false, if_true, Bool.false_eq_true, if_false]
      rw [if_neg (by omega), show decide (((X * p : Nat) : Int) + -((Y * p : Nat) : Int) < 0) = false by rw [decide_eq_false_iff_not]; omega]
      rw [show (((X * p : Nat) : Int) + -((Y * p : Nat) : Int)).natAbs = X * p - Y * p by omega]
      rfl
    · simp only [Bool.not_true, if_true, Bool.false_eq_true, if_false]
      rw [if_neg (by omega), show decide (-((X * p : Nat) : Int) + ((Y * p : Nat) : Int) < 0) = true by rw [decide_eq_true_iff]; omega]
      rw [show (-((X * p : Nat) : Int) + ((Y * p : Nat) : Int)).natAbs = X * p - Y * p by omega]
      rfl

/-- The product. -/
theorem mul_ref (x y : Nat) (hx : rungOf x < INF) (hy : rungOf y < INF) (e f : Int) (he : e = (expOf (rungOf x) : Int) - 1074) (hf : f = (expOf (rungOf y) : Int) - 1074) :
    fmul x y = double.word (negOf x ^^ negOf y) (if magOf (rungOf x) * magOf (rungOf y) = 0 then 0 else rungR (magOf (rungOf x) * magOf (rungOf y)) false (e + f)) := by
  unfold fmul
  rw [mul_fin x y hx hy, rungQ_false _ (e + f) (expOf (rungOf x) + expOf (rungOf y)) unit (by have : unit = 1074 := rfl; omega)]
  unfold V
  rw [pow_add', ← Nat.mul_assoc, ← Nat.mul_assoc, Nat.mul_right_comm (magOf (rungOf x)) (magOf (rungOf y))]
  rfl

/-- The quotient. -/
theorem div_ref (x y : Nat) (hx : rungOf x < INF) (hy : rungOf y < INF) (hx0 : rungOf x ≠ 0) (hy0 : rungOf y ≠ 0) (e f : Int) (he : e = (expOf (rungOf x) : Int) - 1074) (hf : f = (expOf (rungOf y) : Int) - 1074)
    (m n : Nat) (hm : m = magOf (rungOf x)) (hn : n = magOf (rungOf y)) :
    m * 2 ^ 128 / n ≠ 0 ∧ fdiv x y = double.word (negOf x ^^ negOf y) (rungR (m * 2 ^ 128 / n) (m * 2 ^ 128 % n != 0) (e - f - 128)) := by
  have hn0 : 0 < n := by
    rw [hn]; have := mag_zero (rungOf y); omega
  have hm0 : 0 < m := by
    rw [hm]; have := mag_zero (rungOf x); omega
  have hnb : n < 2 ^ 53 := by rw [hn]; exact (mag_exp _ hy).1
  have hq : 2 ^ 53 ≤ m * 2 ^ 128 / n := by
    rw [Nat.le_div_iff_mul_le hn0]
    have : 2 ^ 53 * n ≤ 2 ^ 53 * 2 ^ 53 := Nat.mul_le_mul_left _ (by omega)
    have h2 : 1 * 2 ^ 128 ≤ m * 2 ^ 128 := Nat.mul_le_mul_right _ hm0
    exact Nat.le_trans this (Nat.le_trans (by decide) h2)
  refine ⟨by omega, ?_⟩
  unfold fdiv
  rw [div_fin x y hx hy hy0, rungR_rn _ _ _ (by omega) (fun _ => hq), rn_sticky (m * 2 ^ 128) n _ _ hn0 hq]
  have hu : unit = 1074 := rfl
  unfold V
  rw [← hm, ← hn, Nat.mul_assoc m, Nat.mul_assoc m, ← pow_add', ← pow_add']
  rw [rn_shift m n (expOf (rungOf x) + unit) (expOf (rungOf y)) _ _ (show expOf (rungOf x) + unit + (-(e - f - 128 + 1074)).toNat = 128 + (e - f - 128 + 1074).toNat + expOf (rungOf y) by omega)]
  rfl

/-- A whole number. -/
theorem ofInt_ref (n : Int) : ofInt n = double.word (decide (n < 0)) (if n.natAbs = 0 then 0 else rungR n.natAbs false 0) := by
  rw [ofInt_eq, rungQ_false n.natAbs 0 unit 0 (by have : unit = 1074 := rfl; omega), Nat.pow_zero]

end Go.Proofs.YtfkdaimhdjaefaaDoor.Flt
