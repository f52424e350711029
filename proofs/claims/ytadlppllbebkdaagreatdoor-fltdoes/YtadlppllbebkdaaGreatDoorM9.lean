/- Rounding as the document's answer does it. -/
import Derived.Test.YtadlppllbebkdaaGreatDoorM8
namespace Go.Proofs.YtadlppllbebkdaaGreatDoor

def bitsM (n : Nat) : Nat := if n = 0 then 0 else n.log2 + 1

/-- The parts of a rung. -/
theorem rung_parts (mag : Nat) (place : Int) (h0 : mag ≠ 0) (L : Int) (T : Nat) (hL : L = max (place + (mag.log2 : Int) - 52) (-1074)) (hT : (L + 1074).toNat = T) :
    ((mag * 2 ^ (place + 1074).toNat) / (2 ^ (-(place + 1074)).toNat)).log2 - 52 = T ∧
    rhe (mag * 2 ^ (place - L).toNat) (2 ^ (L - place).toNat) = rhe (mag * 2 ^ (place + 1074).toNat) (2 ^ (-(place + 1074)).toNat * 2 ^ T) := by
  have hLT : L = (T : Int) - 1074 := by omega
  constructor
  · by_cases hz : 0 ≤ place + 1074
    · have : (-(place + 1074)).toNat = 0 := by omega
      rw [this, Nat.pow_zero, Nat.div_one, log2_mul_pow _ _ h0]
      omega
    · have : (place + 1074).toNat = 0 := by omega
      rw [this, Nat.pow_zero, Nat.mul_one]
      by_cases hk : (-(place + 1074)).toNat ≤ mag.log2
      · rw [log2_div_pow _ _ hk h0]; omega
      · have hlt : mag / 2 ^ (-(place + 1074)).toNat = 0 := by
          apply Nat.div_eq_of_lt
          have h1 : mag < 2 ^ (mag.log2 + 1) := Nat.lt_log2_self
          have h2 : 2 ^ (mag.log2 + 1) ≤ 2 ^ (-(place + 1074)).toNat := Nat.pow_le_pow_right (by decide) (by omega)
          omega
        rw [hlt]
        have : Nat.log2 0 = 0 := by decide
        rw [this]; omega
  · rw [← pow_add']
    obtain ⟨a, ha⟩ : ∃ a, a = (place + 1074).toNat := ⟨_, rfl⟩
    obtain ⟨b, hb⟩ : ∃ b, b = (-(place + 1074)).toNat := ⟨_, rfl⟩
    obtain ⟨u, hu⟩ : ∃ u, u = (place - L).toNat := ⟨_, rfl⟩
    obtain ⟨d, hd⟩ : ∃ d, d = (L - place).toNat := ⟨_, rfl⟩
    rw [← ha, ← hb, ← hu, ← hd]
    have hs : u + (b + T) = a + d := by omega
    by_cases hud : u = 0
    · subst hud
      rw [Nat.pow_zero, Nat.mul_one]
      have h3 : b + T = d + a := by omega
      rw [h3, pow_add' d a, rhe_scale _ _ _ (Nat.two_pow_pos a)]
    · have hd0 : d = 0 := by omega
      subst hd0
      have h3 : a = u + (b + T) := by omega
      rw [h3, pow_add' u (b + T), ← Nat.mul_assoc, Nat.pow_zero, rhe_one, rhe_exact _ _ (Nat.two_pow_pos (b + T))]

/-- How far the last bit that is kept lies. -/
def offR (Q : Nat) (e : Int) : Int := max ((bitsM Q : Int) - 53) (-1074 - e)
/-- What is kept. -/
def keptR (Q : Nat) (s : Bool) (e : Int) : Nat := if offR Q e ≤ 0 then Q * 2 ^ (-offR Q e).toNat else keep Q s (offR Q e).toNat
def rungR (Q : Nat) (s : Bool) (e : Int) : Nat :=
  if keptR Q s e < 2 ^ 52 then keptR Q s e
  else if 2047 ≤ e + offR Q e + 1075 then INF
  else min ((e + offR Q e + 1075).toNat * 2 ^ 52 + (keptR Q s e - 2 ^ 52)) INF

theorem log2_double (Q : Nat) (s : Bool) (h : Q ≠ 0) : (2 * Q + s.toNat).log2 = Q.log2 + 1 := by
  have hs : s.toNat ≤ 1 := by cases s <;> simp
  have h1 := Nat.log2_self_le h
  have h2 : Q < 2 ^ (Q.log2 + 1) := Nat.lt_log2_self
  refine (Nat.log2_eq_iff (by omega)).2 ⟨?_, ?_⟩
  · rw [Nat.pow_succ]; omega
  · rw [Nat.pow_succ]; omega

theorem rungR_rn (Q : Nat) (s : Bool) (e : Int) (hQ : Q ≠ 0) (hs : s = true → 2 ^ 53 ≤ Q) :
    rungR Q s e = rn ((2 * Q + s.toNat) * 2 ^ (e + 1074).toNat) (2 * 2 ^ (-(e + 1074)).toNat) := by
  have hmag : 2 * Q + s.toNat ≠ 0 := by omega
  obtain ⟨L, hL⟩ : ∃ L, L = max (e - 1 + ((2 * Q + s.toNat).log2 : Int) - 52) (-1074) := ⟨_, rfl⟩
  obtain ⟨T, hT⟩ : ∃ T, (L + 1074).toNat = T := ⟨_, rfl⟩
  obtain ⟨p1, p2⟩ := rung_parts (2 * Q + s.toNat) (e - 1) hmag L T hL hT
  rw [log2_double Q s hQ] at hL
  have hoff : offR Q e = L - e := by
    unfold offR bitsM
    rw [if_neg hQ]; omega
  -- what is kept
  have hk : keptR Q s e = rhe ((2 * Q + s.toNat) * 2 ^ (e - 1 - L).toNat) (2 ^ (L - (e - 1)).toNat) := by
    unfold keptR
    rw [hoff]
    by_cases h0 : L - e ≤ 0
    · rw [if_pos h0]
      have hsf : s = false := by
        cases s
        · rfl
        · exfalso
          have h1 : 53 ≤ Q.log2 := (Nat.le_log2 hQ).2 (hs rfl)
          omega
      subst hsf
      simp only [Bool.toNat_false, Nat.add_zero]
      by_cases h1 : L - e = 0
      · have e1 : (e - 1 - L).toNat = 0 := by omega
        have e2 : (L - (e - 1)).toNat = 1 := by omega
        have e3 : (-(L - e)).toNat = 0 := by omega
        rw [e1, e2, e3, Nat.pow_zero, Nat.mul_one, Nat.mul_one, Nat.mul_comm 2 Q]
        exact (rhe_exact Q (2 ^ 1) (by decide)).symm
      · obtain ⟨u, hu⟩ : ∃ u, u = (e - 1 - L).toNat := ⟨_, rfl⟩
        have e2 : (L - (e - 1)).toNat = 0 := by omega
        have e3 : (-(L - e)).toNat = u + 1 := by omega
        rw [← hu, e2, e3, Nat.pow_zero, rhe_one, Nat.pow_succ, Nat.mul_comm 2 Q, Nat.mul_assoc, Nat.mul_comm 2]
    · rw [if_neg h0]
      have e1 : (e - 1 - L).toNat = 0 := by omega
      obtain ⟨d, hd⟩ : ∃ d, d = (L - e).toNat := ⟨_, rfl⟩
      have e2 : (L - (e - 1)).toNat = d + 1 := by omega
      rw [← hd, e1, e2, Nat.pow_zero, Nat.mul_one, Nat.pow_succ, Nat.mul_comm (2 ^ d) 2, rhe_keep _ 2 d (by decide) (by omega)]
      have hq2 : (2 * Q + s.toNat) / 2 = Q := by cases s <;> simp <;> omega
      have hq3 : ((2 * Q + s.toNat) % 2 != 0) = s := by
        cases s
        · simp
        · have : (2 * Q + Bool.toNat true) % 2 = 1 := by simp only [Bool.toNat_true]; omega
          rw [this]; rfl
      rw [hq2, hq3]
  rw [p2] at hk
  -- the same fraction
  have hfr : rn ((2 * Q + s.toNat) * 2 ^ (e + 1074).toNat) (2 * 2 ^ (-(e + 1074)).toNat) = rn ((2 * Q + s.toNat) * 2 ^ (e - 1 + 1074).toNat) (2 ^ (-(e - 1 + 1074)).toNat) := by
    by_cases ha : 1 ≤ e + 1074
    · obtain ⟨u, hu⟩ : ∃ u, u = (e - 1 + 1074).toNat := ⟨_, rfl⟩
      have e1 : (e + 1074).toNat = u + 1 := by omega
      have e2 : (-(e + 1074)).toNat = 0 := by omega
      have e3 : (-(e - 1 + 1074)).toNat = 0 := by omega
      rw [← hu, e1, e2, e3, Nat.pow_zero, Nat.mul_one, Nat.pow_succ, ← Nat.mul_assoc]
      have := rn_scale ((2 * Q + s.toNat) * 2 ^ u) 1 2 (by decide)
      rw [Nat.one_mul] at this
      exact this
    · obtain ⟨u, hu⟩ : ∃ u, u = (-(e + 1074)).toNat := ⟨_, rfl⟩
      have e1 : (e + 1074).toNat = 0 := by omega
      have e2 : (e - 1 + 1074).toNat = 0 := by omega
      have e3 : (-(e - 1 + 1074)).toNat = u + 1 := by omega
      rw [← hu, e1, e2, e3, Nat.pow_succ, Nat.mul_comm 2 (2 ^ u)]
  rw [hfr]
  obtain ⟨A, hA⟩ : ∃ A, A = (2 * Q + s.toNat) * 2 ^ (e - 1 + 1074).toNat := ⟨_, rfl⟩
  obtain ⟨Bd, hBd⟩ : ∃ B, B = 2 ^ (-(e - 1 + 1074)).toNat := ⟨_, rfl⟩
  rw [← hA, ← hBd] at p1 hk ⊢
  have hB0 : 0 < Bd := by rw [hBd]; exact Nat.two_pow_pos _
  have hA0 : A ≠ 0 := by rw [hA]; exact Nat.mul_ne_zero hmag (by have := Nat.two_pow_pos (e - 1 + 1074).toNat; omega)
  unfold rn
  rw [if_neg hA0, p1, ← hk]
  have hT2 : e + offR Q e + 1074 = (T : Int) := by rw [hoff]; omega
  have hlow : T = 0 ∨ 2 ^ 52 ≤ keptR Q s e := by
    by_cases hT0 : T = 0
    · exact .inl hT0
    · right
      rw [hk]
      apply le_rhe _ _ _ (Nat.mul_pos hB0 (Nat.two_pow_pos T))
      have hl : (A / Bd).log2 = T + 52 := by omega
      have hne : A / Bd ≠ 0 := by
        intro h
        rw [h] at hl
        have : Nat.log2 0 = 0 := by decide
        omega
      have h1 := Nat.log2_self_le hne
      rw [hl] at h1
      have h2 := (Nat.le_div_iff_mul_le hB0).1 h1
      have e1 : 2 ^ 52 * (Bd * 2 ^ T) = 2 ^ (T + 52) * Bd := by
        rw [pow_add', Nat.mul_comm (2 ^ T), Nat.mul_assoc, Nat.mul_comm Bd]
      rw [e1]; exact h2
  have hI : INF = 2047 * 2 ^ 52 := rfl
  unfold rungR
  by_cases hc : keptR Q s e < 2 ^ 52
  · have hT0 : T = 0 := by omega
    rw [if_pos hc, hT0, Nat.zero_mul, Nat.zero_add]
    exact (Nat.min_eq_left (by omega)).symm
  · rw [if_neg hc]
    by_cases hd : 2047 ≤ e + offR Q e + 1075
    · rw [if_pos hd, hI]
      refine (Nat.min_eq_right ?_).symm
      have : 2046 ≤ T := by omega
      have := Nat.mul_le_mul_right (2 ^ 52) this
      omega
    · rw [if_neg hd]
      have e1 : (e + offR Q e + 1075).toNat = T + 1 := by omega
      have e2 : (T + 1) * 2 ^ 52 + (keptR Q s e - 2 ^ 52) = T * 2 ^ 52 + keptR Q s e := by omega
      rw [e1, e2, hI]
end Go.Proofs.YtadlppllbebkdaaGreatDoor
