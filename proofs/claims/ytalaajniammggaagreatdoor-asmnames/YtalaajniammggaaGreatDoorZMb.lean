/- Whole numbers as rows of 32 bits, lowest first. -/
import Derived.Test.YtalaajniammggaaGreatDoorZMa
import Derived.Test.YtalaajniammggaaGreatDoorZUb
namespace Go.Proofs.YtalaajniammggaaGreatDoor

def BB : Nat := 4294967296
def val : List Nat → Nat
  | [] => 0
  | x :: r => x + BB * val r
end Go.Proofs.YtalaajniammggaaGreatDoor

/- Whole numbers, bit by bit. -/
namespace Go.Proofs.YtalaajniammggaaGreatDoor

/-- How many digits k bits take. -/
def words (k : Nat) : Nat := (k + 31) / 32

end Go.Proofs.YtalaajniammggaaGreatDoor

/- Rounding as the document's answer does it. -/
namespace Go.Proofs.YtalaajniammggaaGreatDoor

end Go.Proofs.YtalaajniammggaaGreatDoor

/- What the document's answer reckons, and the closed forms. -/
namespace Go.Proofs.YtalaajniammggaaGreatDoor
open Ieee

end Go.Proofs.YtalaajniammggaaGreatDoor

/- The nearest float is the one that a number reads back as. -/
namespace Go.Proofs.YtalaajniammggaaGreatDoor

theorem rhe_at {n g m : Nat} (hg : 0 < g) (h : if m % 2 = 0 then 2 * m * g ≤ 2 * n + g ∧ 2 * n ≤ 2 * m * g + g else 2 * m * g < 2 * n + g ∧ 2 * n < 2 * m * g + g) : rhe n g = m := by
  have hd := Nat.div_add_mod n g
  have hl := Nat.mod_lt n hg
  obtain ⟨q, hq⟩ : ∃ q, n / g = q := ⟨_, rfl⟩
  obtain ⟨r, hr⟩ : ∃ r, n % g = r := ⟨_, rfl⟩
  rw [hq, hr] at hd
  rw [hr] at hl
  unfold rhe
  rw [hq, hr]
  have e1 : 2 * m * g ≤ 2 * n + g ∧ 2 * n ≤ 2 * m * g + g := by
    split at h
    · exact h
    · exact ⟨Nat.le_of_lt h.1, Nat.le_of_lt h.2⟩
  -- m is q or q + 1
  have hm1 : m ≤ q + 1 := by
    rcases Nat.lt_or_ge (q + 1) m with hc | hc
    · exfalso
      have := Nat.mul_le_mul_right g (show 2 * (q + 2) ≤ 2 * m by omega)
      have e : 2 * (q + 2) * g = 2 * (g * q) + 4 * g := by grind
      omega
    · exact hc
  have hm2 : q ≤ m := by
    rcases Nat.lt_or_ge m q with hc | hc
    · exfalso
      have := Nat.mul_le_mul_right g (show 2 * m + 2 ≤ 2 * q by omega)
      have e : 2 * q * g = 2 * (g * q) := by grind
      have e' : (2 * m + 2) * g = 2 * m * g + 2 * g := by grind
      omega
    · exact hc
  rcases (show m = q ∨ m = q + 1 by omega) with hc | hc
  · subst hc
    have e : 2 * m * g = 2 * (g * m) := by grind
    have h1 : decide (g < 2 * r) = false := by simp; omega
    have h2 : (g == 2 * r && m % 2 == 1) = false := by
      by_cases hh : g = 2 * r
      · have : m % 2 ≠ 1 := by
          intro ho
          rw [if_neg (by omega)] at h
          omega
        simp [this]
      · simp [hh]
    rw [h1, h2]
    rfl
  · subst hc
    have e : 2 * (q + 1) * g = 2 * (g * q) + 2 * g := by grind
    have h3 : (decide (g < 2 * r) || (g == 2 * r && q % 2 == 1)) = true := by
      by_cases hh : g < 2 * r
      · simp [hh]
      · have hge : g = 2 * r := by omega
        have : q % 2 = 1 := by
          rcases Nat.mod_two_eq_zero_or_one q with ho | ho
          · rw [if_neg (by omega)] at h
            omega
          · exact ho
        simp [hge, this]
    rw [h3]
    rfl

theorem rn_reads {mant : Nat} {k : Int} (h : Flo mant k) {A B : Nat} (hB : 0 < B) (kk : Nat) (hkk : (kk : Int) = k + 1074)
    (hI : if mant % 2 = 0 then cl mant (skewOf mant k) * 2 ^ kk * B ≤ 4 * A ∧ 4 * A ≤ (4 * mant + 2) * 2 ^ kk * B else cl mant (skewOf mant k) * 2 ^ kk * B < 4 * A ∧ 4 * A < (4 * mant + 2) * 2 ^ kk * B) :
    rn A B = kk * 2 ^ 52 + mant := by
  have h1 := h.one
  have h2 := h.top
  have hkb : kk ≤ 2045 := by have := h.hi; omega
  have hk2 := two_pos kk
  have hle : cl mant (skewOf mant k) * 2 ^ kk * B ≤ 4 * A ∧ 4 * A ≤ (4 * mant + 2) * 2 ^ kk * B := by
    split at hI
    · exact hI
    · exact ⟨Nat.le_of_lt hI.1, Nat.le_of_lt hI.2⟩
  have hcl4 : 4 * mant - 2 ≤ cl mant (skewOf mant k) := by
    unfold cl
    cases skewOf mant k
    · simp only [cond_false]; omega
    · simp only [cond_true]; omega
  have hA0 : A ≠ 0 := by
    intro h0
    subst h0
    have : 0 < cl mant (skewOf mant k) * 2 ^ kk * B := Nat.mul_pos (Nat.mul_pos (cl_pos _ h1) hk2) hB
    omega
  have e52 : (2 : Nat) ^ 52 = 4503599627370496 := by decide
  -- the rounding at the float's own scale
  have atk : rhe A (B * 2 ^ kk) = mant := by
    refine rhe_at (Nat.mul_pos hB hk2) ?_
    have hlo := Nat.mul_le_mul_right (2 ^ kk * B) hcl4
    have e1 : cl mant (skewOf mant k) * 2 ^ kk * B = cl mant (skewOf mant k) * (2 ^ kk * B) := Nat.mul_assoc _ _ _
    have e2 : (4 * mant + 2) * 2 ^ kk * B = (4 * mant + 2) * (2 ^ kk * B) := Nat.mul_assoc _ _ _
    rw [e1, e2] at hI
    rw [Nat.mul_comm B]
    generalize 2 ^ kk * B = G at *
    have e3 : (4 * mant - 2) * G + 2 * G = 4 * (mant * G) := by
      rw [← Nat.add_mul, show 4 * mant - 2 + 2 = 4 * mant by omega, Nat.mul_assoc]
    have e4 : (4 * mant + 2) * G = 4 * (mant * G) + 2 * G := by grind
    have e5 : 2 * mant * G = 2 * (mant * G) := Nat.mul_assoc _ _ _
    rw [e5]
    by_cases hm : mant % 2 = 0
    · rw [if_pos hm] at hI ⊢
      omega
    · rw [if_neg hm] at hI ⊢
      omega
  have hINF : kk * 4503599627370496 + mant ≤ 2047 * 4503599627370496 := by omega
  unfold rn
  rw [if_neg hA0, e52]
  obtain ⟨t, ht⟩ : ∃ t, (A / B).log2 - 52 = t := ⟨_, rfl⟩
  rw [ht]
  -- which scale the nearest one takes
  have hup : A / B < 2 ^ (53 + kk) := by
    rw [Nat.div_lt_iff_lt_mul hB]
    have : (4 * mant + 2) * 2 ^ kk * B ≤ 36028797018963966 * 2 ^ kk * B := Nat.mul_le_mul_right _ (Nat.mul_le_mul_right _ (by omega))
    have e : 2 ^ (53 + kk) * B = 9007199254740992 * (2 ^ kk * B) := by rw [Nat.pow_add, Nat.mul_assoc]
    have e' : 36028797018963966 * 2 ^ kk * B = 36028797018963966 * (2 ^ kk * B) := Nat.mul_assoc _ _ _
    have hG : 0 < 2 ^ kk * B := Nat.mul_pos hk2 hB
    rw [e]
    rw [e'] at this
    generalize 2 ^ kk * B = G at *
    omega
  have htk : t ≤ kk := by
    rw [← ht]
    rcases Nat.eq_zero_or_pos (A / B) with h0 | h0
    · rw [h0]; simp
    · have := (Nat.log2_lt (show A / B ≠ 0 by omega)).2 hup
      omega
  by_cases htt : t = kk
  · rw [htt, atk]
    exact Nat.min_eq_left hINF
  · -- just below a power of two
    have hkk1 : 1 ≤ kk := by omega
    have hm52 : 4503599627370496 ≤ mant := by rcases h.norm with hn | hn <;> omega
    have hlt : A / B < 2 ^ (52 + kk) := by
      rcases Nat.lt_or_ge (A / B) (2 ^ (52 + kk)) with hc | hc
      · exact hc
      · exfalso
        have : 52 + kk ≤ (A / B).log2 := (Nat.le_log2 (by have := two_pos (52 + kk); omega)).2 hc
        omega
    have hA1 : A < 4503599627370496 * (2 ^ kk * B) := by
      rw [Nat.div_lt_iff_lt_mul hB, Nat.pow_add, Nat.mul_assoc, e52] at hlt
      exact hlt
    have hsk : mant = 4503599627370496 := by
      rcases Nat.lt_or_ge 4503599627370496 mant with hc | hc
      · exfalso
        have := Nat.mul_le_mul_right (2 ^ kk * B) (show 18014398509481986 ≤ cl mant (skewOf mant k) by omega)
        have e1 : cl mant (skewOf mant k) * 2 ^ kk * B = cl mant (skewOf mant k) * (2 ^ kk * B) := Nat.mul_assoc _ _ _
        have h3 := hle.1
        rw [e1] at h3
        generalize 2 ^ kk * B = G at *
        omega
      · omega
    have hskw : skewOf mant k = true := by unfold skewOf; simp [hsk]; omega
    have hlo : 18014398509481983 * (2 ^ kk * B) ≤ 4 * A := by
      have h3 := hle.1
      rw [hskw, hsk, Nat.mul_assoc] at h3
      exact h3
    have e2k : 2 ^ kk = 2 * 2 ^ (kk - 1) := by
      rw [← Nat.pow_succ']; congr 1; omega
    have ht1 : t = kk - 1 := by
      have hge : 2 ^ (51 + kk) ≤ A / B := by
        rw [Nat.le_div_iff_mul_le hB, Nat.pow_add, Nat.mul_assoc]
        have : (2 : Nat) ^ 51 = 2251799813685248 := by decide
        rw [this]
        generalize 2 ^ kk * B = G at *
        omega
      have : 51 + kk ≤ (A / B).log2 := (Nat.le_log2 (by have := two_pos (51 + kk); omega)).2 hge
      omega
    rw [ht1]
    have hr : rhe A (B * 2 ^ (kk - 1)) = 9007199254740992 := by
      refine rhe_at (Nat.mul_pos hB (two_pos _)) ?_
      rw [if_pos (by decide), Nat.mul_comm B]
      rw [e2k, Nat.mul_assoc] at hlo hA1
      generalize 2 ^ (kk - 1) * B = G at *
      omega
    rw [hr, hsk]
    rw [hsk] at hINF
    have e : (kk - 1) * 4503599627370496 + 9007199254740992 = kk * 4503599627370496 + 4503599627370496 := by omega
    rw [e]
    exact Nat.min_eq_left hINF
end Go.Proofs.YtalaajniammggaaGreatDoor
