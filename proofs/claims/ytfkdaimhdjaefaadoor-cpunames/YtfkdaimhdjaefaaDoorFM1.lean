/- Binary64: what a rung is worth, and rounding to a rung, over whole numbers. -/
import Derived.Laws.FloatArith
namespace Go.Proofs.YtfkdaimhdjaefaaDoor.Flt
open Ieee

/-- Half to even of n / g. -/
def rhe (n g : Nat) : Nat := n / g + (decide (g < 2 * (n % g)) || (g == 2 * (n % g) && n / g % 2 == 1)).toNat

theorem rhe_scale (n g c : Nat) (hc : 0 < c) : rhe (n * c) (g * c) = rhe n g := by
  unfold rhe
  rw [Nat.mul_div_mul_right n g hc, Nat.mul_mod_mul_right]
  congr 1
  have h1 : decide (g * c < 2 * (n % g * c)) = decide (g < 2 * (n % g)) := by
    rw [← Nat.mul_assoc]
    exact decide_eq_decide.2 (Nat.mul_lt_mul_right hc)
  have h2 : (g * c == 2 * (n % g * c)) = (g == 2 * (n % g)) := by
    rw [← Nat.mul_assoc, Bool.eq_iff_iff, beq_iff_eq, beq_iff_eq]
    exact ⟨fun h => Nat.eq_of_mul_eq_mul_right hc h, fun h => by rw [← h]⟩
  rw [h1, h2]

theorem rhe_one (n : Nat) : rhe n 1 = n := by
  unfold rhe
  simp [Nat.mod_one]

theorem rhe_exact (n g : Nat) (hg : 0 < g) : rhe (n * g) g = n := by
  have := rhe_scale n 1 g hg
  rw [Nat.one_mul] at this
  rw [this, rhe_one]

theorem rhe_small (n g : Nat) (h : 2 * n < g) : rhe n g = 0 := by
  unfold rhe
  have h1 : n / g = 0 := Nat.div_eq_of_lt (by omega)
  have h2 : n % g = n := Nat.mod_eq_of_lt (by omega)
  rw [h1, h2]
  have h3 : decide (g < 2 * n) = false := by simp; omega
  have h4 : (g == 2 * n) = false := by simp; omega
  rw [h3, h4]; rfl

theorem cut_even (neg : Bool) (n d : Nat) : Toward.even.cut neg n d = rhe n (2 ^ d) := by
  unfold Toward.cut
  by_cases h : d ≤ n.log2 + 2
  · simp only [Nat.min_eq_left h, Nat.one_shiftLeft]
    rfl
  · have hl : n < 2 ^ (n.log2 + 1) := Nat.lt_log2_self
    have h1 : min d (n.log2 + 2) = n.log2 + 2 := Nat.min_eq_right (by omega)
    have hp : 2 ^ (n.log2 + 2) = 2 * 2 ^ (n.log2 + 1) := by rw [Nat.pow_succ 2 (n.log2 + 1), Nat.mul_comm]
    have hs : 2 * n < 2 ^ d := by
      have : 2 ^ (n.log2 + 2) ≤ 2 ^ d := Nat.pow_le_pow_right (by decide) (by omega)
      omega
    rw [rhe_small n _ hs]
    simp only [h1, Nat.one_shiftLeft]
    exact rhe_small n _ (by omega)

/-- The rung nearest to A / B. -/
def rn (A B : Nat) : Nat :=
  if A = 0 then 0 else min (((A / B).log2 - 52) * 2 ^ 52 + rhe A (B * 2 ^ ((A / B).log2 - 52))) (2047 * 2 ^ 52)

theorem rn_zero (B : Nat) : rn 0 B = 0 := rfl

theorem rn_scale (A B c : Nat) (hc : 0 < c) : rn (A * c) (B * c) = rn A B := by
  unfold rn
  have e : (A * c = 0) = (A = 0) := by
    apply propext
    constructor
    · intro h
      rcases Nat.mul_eq_zero.1 h with h | h
      · exact h
      · omega
    · intro h; rw [h, Nat.zero_mul]
  simp only [e, Nat.mul_div_mul_right A B hc]
  rw [Nat.mul_right_comm B c, rhe_scale _ _ _ hc]

theorem pow_add' (a b : Nat) : 2 ^ (a + b) = 2 ^ a * 2 ^ b := Nat.pow_add 2 a b

theorem log2_mul_pow (m k : Nat) (h : m ≠ 0) : (m * 2 ^ k).log2 = m.log2 + k := by
  have hp : 0 < 2 ^ k := Nat.two_pow_pos k
  have h0 : m * 2 ^ k ≠ 0 := Nat.mul_ne_zero h (by omega)
  refine (Nat.log2_eq_iff h0).2 ⟨?_, ?_⟩
  · rw [pow_add']; exact Nat.mul_le_mul_right _ (Nat.log2_self_le h)
  · have : m.log2 + k + 1 = (m.log2 + 1) + k := by omega
    rw [this, pow_add']
    exact Nat.mul_lt_mul_of_pos_right Nat.lt_log2_self hp

/-- m / 2^k: its logarithm. -/
theorem log2_div_pow (m k : Nat) (h : k ≤ m.log2) (h0 : m ≠ 0) : (m / 2 ^ k).log2 = m.log2 - k := by
  have hp : 0 < 2 ^ k := Nat.two_pow_pos k
  have e : m.log2 = (m.log2 - k) + k := by omega
  have hlo : 2 ^ (m.log2 - k) ≤ m / 2 ^ k := by
    rw [Nat.le_div_iff_mul_le hp, ← pow_add', ← e]
    exact Nat.log2_self_le h0
  have hn : m / 2 ^ k ≠ 0 := by have := Nat.two_pow_pos (m.log2 - k); omega
  refine (Nat.log2_eq_iff hn).2 ⟨hlo, ?_⟩
  rw [Nat.div_lt_iff_lt_mul hp, ← pow_add']
  have : m.log2 - k + 1 + k = m.log2 + 1 := by omega
  rw [this]
  exact Nat.lt_log2_self

theorem nearest_rn (neg : Bool) (mag : Nat) (place : Int) :
    double.nearest neg mag place = double.word neg (rn (mag * 2 ^ (place + 1074).toNat) (2 ^ (-(place + 1074)).toNat)) := by
  unfold Format.nearest
  by_cases h0 : mag = 0
  · subst h0; rw [if_pos rfl, Nat.zero_mul]; rfl
  · rw [if_neg h0]
    have hp : mag * 2 ^ (place + 1074).toNat ≠ 0 := Nat.mul_ne_zero h0 (by have := Nat.two_pow_pos (place + 1074).toNat; omega)
    unfold rn
    rw [if_neg hp]
    have hl : double.leastPlace = -1074 := by decide
    have hf : double.fractionBits = 52 := rfl
    have hb : double.binade = 2 ^ 52 := rfl
    have hi : double.infRung = 2047 * 2 ^ 52 := by decide
    simp only [hl, hf, hb, hi, cut_even]
    have key : ∀ T : Nat, (max (place + (mag.log2 : Int) - (52 : Nat)) (-1074) - -1074).toNat = T →
        ((mag * 2 ^ (place + 1074).toNat) / (2 ^ (-(place + 1074)).toNat)).log2 - 52 = T ∧
        rhe (mag <<< (place - max (place + (mag.log2 : Int) - (52 : Nat)) (-1074)).toNat) (2 ^ (max (place + (mag.log2 : Int) - (52 : Nat)) (-1074) - place).toNat) =
        rhe (mag * 2 ^ (place + 1074).toNat) (2 ^ (-(place + 1074)).toNat * 2 ^ T) := by
      intro T hT
      obtain ⟨L, hL⟩ : ∃ L, L = max (place + (mag.log2 : Int) - (52 : Nat)) (-1074) := ⟨_, rfl⟩
      rw [← hL] at hT ⊢
      have hLT : L = (T : Int) - 1074 := by omega
      constructor
      · by_cases hz : 0 ≤ place + 1074
        · have : (-(place + 1074)).toNat = 0 := by omega
          rw [this, Nat.pow_zero, Nat.div_one, log2_mul_pow _ _ h0]
          omega
        · have : (place + 1074).toNat = 0 := by omega
          rw [this, Nat.pow_zero, Nat.mul_one]
          by_cases hk : (-(place + 1074)).toNat ≤ mag.log2
          · rw [log2_div_pow _ _ hk h0]; omega
          · have hlt : mag / 2 ^ (-(place + 1074)).toNat = 0 := by
              apply Nat.div_eq_of_lt
              have h1 : mag < 2 ^ (mag.log2 + 1) := Nat.lt_log2_self
              have h2 : 2 ^ (mag.log2 + 1) ≤ 2 ^ (-(place + 1074)).toNat := Nat.pow_le_pow_right (by decide) (by omega)
              omega
            rw [hlt]
            have : Nat.log2 0 = 0 := by decide
            rw [this]; omega
      · rw [Nat.shiftLeft_eq, ← pow_add']
        obtain ⟨a, ha⟩ : ∃ a, a = (place + 1074).toNat := ⟨_, rfl⟩
        obtain ⟨b, hb⟩ : ∃ b, b = (-(place + 1074)).toNat := ⟨_, rfl⟩
        obtain ⟨u, hu⟩ : ∃ u, u = (place - L).toNat := ⟨_, rfl⟩
        obtain ⟨d, hd⟩ : ∃ d, d = (L - place).toNat := ⟨_, rfl⟩
        rw [← ha, ← hb, ← hu, ← hd]
        -- u + (b + T) = a + d
        have hs : u + (b + T) = a + d := by omega
        by_cases hud : u = 0
        · have : a + (d - (b + T)) + 0 = a + (d - (b + T)) := rfl
          subst hud
          rw [Nat.pow_zero, Nat.mul_one]
          have h3 : b + T = d + a := by omega
          rw [h3, pow_add' d a, rhe_scale _ _ _ (Nat.two_pow_pos a)]
        · have hd0 : d = 0 := by omega
          subst hd0
          have h3 : a = u + (b + T) := by omega
          rw [h3, pow_add' u (b + T), ← Nat.mul_assoc, Nat.pow_zero, rhe_one, rhe_exact _ _ (Nat.two_pow_pos (b + T))]
    obtain ⟨k1, k2⟩ := key _ rfl
    rw [k1, k2]
end Go.Proofs.YtfkdaimhdjaefaaDoor.Flt
