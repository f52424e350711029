/- Binary64: whole numbers there and back. -/
import Derived.Test.YtfkdaimhdjaefaaDoorFM5
namespace Go.Proofs.YtfkdaimhdjaefaaDoor.Flt
open Ieee

def ofInt (n : Int) : Nat := double.nearest (decide (n < 0)) n.natAbs 0
/-- The whole part of a finite float. -/
def part (x : Nat) : Int := if negOf x then -((V (rungOf x) / 2 ^ unit : Nat) : Int) else ((V (rungOf x) / 2 ^ unit : Nat) : Int)
def fwhole (x : Nat) : Int :=
  if INF < rungOf x then 0 else if (2 ^ 63 * 2 ^ unit : Nat) ≤ K x then 2 ^ 63 - 1 else if K x < -(2 ^ 63 * 2 ^ unit : Nat) then -2 ^ 63 else part x

theorem ofInt_eq (n : Int) : ofInt n = double.word (decide (n < 0)) (rn (n.natAbs * 2 ^ unit) 1) := by
  unfold ofInt
  rw [nearest_rn]
  have e1 : ((0 : Int) + 1074).toNat = unit := rfl
  have e2 : (-((0 : Int) + 1074)).toNat = 0 := rfl
  rw [e1, e2, Nat.pow_zero]

theorem cut_zero (neg : Bool) (n d : Nat) : Toward.zero.cut neg n d = n / 2 ^ d := by
  unfold Toward.cut
  by_cases h : d ≤ n.log2 + 2
  · simp only [Nat.min_eq_left h, Nat.one_shiftLeft]
    rfl
  · have hl : n < 2 ^ (n.log2 + 1) := Nat.lt_log2_self
    have h1 : min d (n.log2 + 2) = n.log2 + 2 := Nat.min_eq_right (by omega)
    have hp : 2 ^ (n.log2 + 1) ≤ 2 ^ (n.log2 + 2) := Nat.pow_le_pow_right (by decide) (by omega)
    have hs : 2 ^ (n.log2 + 2) ≤ 2 ^ d := Nat.pow_le_pow_right (by decide) (by omega)
    simp only [h1, Nat.one_shiftLeft]
    rw [Nat.div_eq_of_lt (show n < 2 ^ (n.log2 + 2) by omega), Nat.div_eq_of_lt (show n < 2 ^ d by omega)]
    rfl

theorem toInt_fin (x : Nat) (h : rungOf x < INF) : (double.read x).toInt .zero = some (part x) := by
  rw [read_fin x h]
  unfold Datum.toInt Datum.integral
  simp only [cut_zero]
  unfold part V
  obtain ⟨m, hm⟩ : ∃ m, m = magOf (rungOf x) := ⟨_, rfl⟩
  obtain ⟨e, he⟩ : ∃ e, e = expOf (rungOf x) := ⟨_, rfl⟩
  rw [← hm, ← he]
  have hT : unit = 1074 := rfl
  have key : m <<< (-1074 + (e : Int)).toNat / 2 ^ (-(-1074 + (e : Int))).toNat = m * 2 ^ e / 2 ^ unit := by
    rw [Nat.shiftLeft_eq]
    by_cases hle : e ≤ unit
    · have e1 : (-1074 + (e : Int)).toNat = 0 := by omega
      have e2 : (-(-1074 + (e : Int))).toNat = unit - e := by omega
      have e3 : unit = (unit - e) + e := by omega
      rw [e1, e2, Nat.pow_zero, Nat.mul_one]
      have : m * 2 ^ e / 2 ^ unit = m * 2 ^ e / (2 ^ (unit - e) * 2 ^ e) := by rw [← pow_add', ← e3]
      rw [this, Nat.mul_div_mul_right _ _ (Nat.two_pow_pos e)]
    · have e1 : (-1074 + (e : Int)).toNat = e - unit := by omega
      have e2 : (-(-1074 + (e : Int))).toNat = 0 := by omega
      have e3 : e = (e - unit) + unit := by omega
      rw [e1, e2, Nat.pow_zero, Nat.div_one]
      have : m * 2 ^ e = m * 2 ^ (e - unit) * 2 ^ unit := by rw [Nat.mul_assoc, ← pow_add', ← e3]
      rw [this, Nat.mul_div_cancel _ (Nat.two_pow_pos unit)]
  rw [key, signed_eq, Nat.pow_zero, Nat.mul_one]

theorem rhe_near (A g : Nat) (hg : 0 < g) : 2 * (rhe A g * g) ≤ 2 * A + g ∧ 2 * A ≤ 2 * (rhe A g * g) + g := by
  have h := Nat.div_add_mod A g
  have hr := Nat.mod_lt A hg
  obtain ⟨r, hr'⟩ : ∃ r, r = A % g := ⟨_, rfl⟩
  obtain ⟨q, hq'⟩ : ∃ q, q = A / g := ⟨_, rfl⟩
  unfold rhe
  rw [← hr', ← hq'] at h ⊢
  rw [← hr'] at hr
  rw [Nat.mul_comm] at h
  cases hb : (decide (g < 2 * r) || (g == 2 * r && q % 2 == 1))
  · simp only [Bool.or_eq_false_iff, decide_eq_false_iff_not] at hb
    simp only [Bool.toNat_false, Nat.add_zero]
    omega
  · simp only [Bool.or_eq_true, decide_eq_true_eq, Bool.and_eq_true, beq_iff_eq] at hb
    simp only [Bool.toNat_true, Nat.add_mul, Nat.one_mul]
    omega

theorem log2_le63 (A : Nat) (h0 : A ≠ 0) (h : A ≤ 2 ^ 63) : A.log2 ≤ 63 := by
  have : A.log2 < 64 := (Nat.log2_lt h0).2 (by omega)
  omega

/-- A whole number of at most 2^63, rounded. -/
theorem round_int (A : Nat) (h : A ≤ 2 ^ 63) :
    ∃ B, V (rn (A * 2 ^ unit) 1) = B * 2 ^ unit ∧ A ≤ B + 512 ∧ B ≤ A + 512 ∧ (A ≤ 2 ^ 53 → B = A) ∧ B ≤ 2 ^ 63 ∧ rn (A * 2 ^ unit) 1 < INF := by
  by_cases h0 : A = 0
  · subst h0
    exact ⟨0, by rw [Nat.zero_mul, rn_zero, V_zero], by omega, by omega, fun _ => rfl, by omega, by rw [Nat.zero_mul, rn_zero]; decide⟩
  · have hI : INF = 2047 * 2 ^ 52 := rfl
    have hT : unit = 1074 := rfl
    have hu := Nat.two_pow_pos unit
    have hl := log2_le63 A h0 h
    have hA : A * 2 ^ unit ≠ 0 := Nat.mul_ne_zero h0 (by omega)
    have hlog : (A * 2 ^ unit).log2 = A.log2 + unit := log2_mul_pow A unit h0
    obtain ⟨t, ht⟩ : ∃ t, t = (A * 2 ^ unit).log2 - 52 := ⟨_, rfl⟩
    obtain ⟨k1, k2⟩ := kept_bounds (A * 2 ^ unit)
    rw [← ht] at k1 k2
    have hrn : rn (A * 2 ^ unit) 1 = t * 2 ^ 52 + rhe (A * 2 ^ unit) (2 ^ t) := by
      unfold rn
      rw [if_neg hA, Nat.div_one, Nat.one_mul, ← ht]
      exact Nat.min_eq_left (by omega)
    have hlt : rn (A * 2 ^ unit) 1 < INF := by rw [hrn]; omega
    have hV : V (rn (A * 2 ^ unit) 1) = rhe (A * 2 ^ unit) (2 ^ t) * 2 ^ t := by
      rw [hrn]; exact V_pack t _ k1 k2
    by_cases hs : A.log2 ≤ 52
    · have e1 : A * 2 ^ unit = A * 2 ^ (52 - A.log2) * 2 ^ t := by
        rw [Nat.mul_assoc, ← pow_add']
        have : 52 - A.log2 + t = unit := by omega
        rw [this]
      refine ⟨A, ?_, by omega, by omega, fun _ => rfl, h, hlt⟩
      rw [hV]
      have : rhe (A * 2 ^ unit) (2 ^ t) = A * 2 ^ (52 - A.log2) := by rw [e1]; exact rhe_exact _ _ (Nat.two_pow_pos t)
      rw [this]; exact e1.symm
    · obtain ⟨d, hd⟩ : ∃ d, t = d + unit := ⟨t - unit, by omega⟩
      have hd1 : d = A.log2 - 52 := by omega
      have e1 : rhe (A * 2 ^ unit) (2 ^ t) = rhe A (2 ^ d) := by
        rw [hd, pow_add', rhe_scale _ _ _ hu]
      have e2 : rhe (A * 2 ^ unit) (2 ^ t) * 2 ^ t = rhe A (2 ^ d) * 2 ^ d * 2 ^ unit := by
        rw [e1, hd, pow_add', ← Nat.mul_assoc]
      obtain ⟨n1, n2⟩ := rhe_near A (2 ^ d) (Nat.two_pow_pos d)
      have e3 : 2 ^ 63 = 2 ^ (63 - d) * 2 ^ d := by
        rw [← pow_add']
        have : 63 - d + d = 63 := by omega
        rw [this]
      have hB : rhe A (2 ^ d) * 2 ^ d ≤ 2 ^ 63 := by
        rw [e3]
        apply Nat.mul_le_mul_right
        apply rhe_le _ _ _ (Nat.two_pow_pos d)
        rw [← e3]; exact h
      by_cases hmax : A = 2 ^ 63
      · have e4 : rhe A (2 ^ d) * 2 ^ d = 2 ^ 63 := by
          rw [hmax, e3, rhe_exact _ _ (Nat.two_pow_pos d)]
        refine ⟨2 ^ 63, by rw [hV, e2, e4], by omega, by omega, by omega, by omega, hlt⟩
      · have hl2 : A.log2 ≤ 62 := by
          have : A.log2 < 63 := (Nat.log2_lt h0).2 (by omega)
          omega
        have hg : 2 ^ d ≤ 2 ^ 10 := Nat.pow_le_pow_right (by decide) (by omega)
        refine ⟨rhe A (2 ^ d) * 2 ^ d, by rw [hV, e2], by omega, by omega, ?_, hB, hlt⟩
        intro h53
        have hge : 2 ^ 53 ≤ A := by
          have a1 := Nat.log2_self_le h0
          have a2 : 2 ^ 53 ≤ 2 ^ A.log2 := Nat.pow_le_pow_right (by decide) (by omega)
          omega
        have hA53 : A = 2 ^ 53 := by omega
        have hl53 : A.log2 = 53 := by rw [hA53]; decide
        have hd2 : d = 1 := by omega
        rw [hd2, hA53]; decide

theorem ofInt_fine (n : Int) : rungOf (ofInt n) = rn (n.natAbs * 2 ^ unit) 1 ∧ negOf (ofInt n) = decide (n < 0) ∧ ofInt n < 2 ^ 64 := by
  rw [ofInt_eq]
  exact ⟨rungOf_word _ _ (rn_lt _ _), negOf_word _ _ (rn_lt _ _), (word_fine _ _ (rn_le _ _)).2⟩

theorem fwhole_ofInt (n : Int) (h1 : -2 ^ 63 ≤ n) (h2 : n < 2 ^ 63) :
    (-2 ^ 53 ≤ n → n ≤ 2 ^ 53 → fwhole (ofInt n) = n) ∧ fwhole (ofInt n) ≤ n + 512 ∧ n ≤ fwhole (ofInt n) + 512 ∧ -2 ^ 63 ≤ fwhole (ofInt n) ∧ fwhole (ofInt n) < 2 ^ 63 := by
  obtain ⟨B, b1, b2, b3, b4, b5, b6⟩ := round_int n.natAbs (by omega)
  obtain ⟨r1, r2, r3⟩ := ofInt_fine n
  have hu := Nat.two_pow_pos unit
  have hnn : ¬ INF < rungOf (ofInt n) := by rw [r1]; omega
  have hp : V (rungOf (ofInt n)) / 2 ^ unit = B := by rw [r1, b1, Nat.mul_div_cancel _ hu]
  have hv : V (rungOf (ofInt n)) = B * 2 ^ unit := by rw [r1, b1]
  have hcast : ∀ a : Nat, ((a * 2 ^ unit : Nat) : Int) = (a : Int) * ((2 ^ unit : Nat) : Int) := fun a => Int.natCast_mul a (2 ^ unit)
  have hui : (0 : Int) < ((2 ^ unit : Nat) : Int) := by omega
  have key : fwhole (ofInt n) = if decide (n < 0) = true then -(B : Int) else if (2 ^ 63 : Int) ≤ B then 2 ^ 63 - 1 else B := by
    unfold fwhole K part
    rw [if_neg hnn, r2, hp, hv, hcast, hcast]
    obtain ⟨U, hU⟩ : ∃ U, U = ((2 ^ unit : Nat) : Int) := ⟨_, rfl⟩
    rw [← hU] at hui ⊢
    have e63 : ((2 ^ 63 : Nat) : Int) = 2 ^ 63 := rfl
    rw [e63]
    have b5' : (B : Int) ≤ 2 ^ 63 := by omega
    by_cases hn : n < 0
    · simp only [hn, decide_true, if_true]
      have c1 : ¬ ((2 ^ 63 : Int) * U ≤ -((B : Int) * U)) := by
        have := Int.mul_nonneg (Int.natCast_nonneg B) (Int.le_of_lt hui)
        have := Int.mul_pos (show (0 : Int) < 2 ^ 63 by decide) hui
        omega
      have c2 : ¬ (-((B : Int) * U) < -((2 ^ 63 : Int) * U)) := by
        have := Int.mul_le_mul_of_nonneg_right b5' (Int.le_of_lt hui)
        omega
      rw [if_neg c1, if_neg c2]
    · simp only [hn, decide_false, Bool.false_eq_true, if_false]
      have c2 : ¬ ((B : Int) * U < -((2 ^ 63 : Int) * U)) := by
        have := Int.mul_nonneg (Int.natCast_nonneg B) (Int.le_of_lt hui)
        have := Int.mul_pos (show (0 : Int) < 2 ^ 63 by decide) hui
        omega
      rw [if_neg c2]
      by_cases hb : (2 ^ 63 : Int) ≤ B
      · rw [if_pos hb, if_pos (Int.mul_le_mul_of_nonneg_right hb (Int.le_of_lt hui))]
      · have : ¬ ((2 ^ 63 : Int) * U ≤ (B : Int) * U) := by
          have := Int.mul_lt_mul_of_pos_right (Int.not_le.1 hb) hui
          omega
        rw [if_neg hb, if_neg this]
  rw [key]
  by_cases hn : n < 0
  · simp only [hn, decide_true, if_true]
    exact ⟨fun a _ => by have := b4 (by omega); omega, by omega, by omega, by omega, by omega⟩
  · simp only [hn, decide_false, Bool.false_eq_true, if_false]
    by_cases hb : (2 ^ 63 : Int) ≤ B
    · rw [if_pos hb]
      exact ⟨fun a b => by have := b4 (by omega); omega, by omega, by omega, by omega, by omega⟩
    · rw [if_neg hb]
      exact ⟨fun a b => by have := b4 (by omega); omega, by omega, by omega, by omega, by omega⟩

theorem V_le (a b : Nat) (h : a ≤ b) : V a ≤ V b := by
  rcases Nat.lt_or_eq_of_le h with h1 | h1
  · exact Nat.le_of_lt (V_lt _ _ h1)
  · rw [h1]; exact Nat.le_refl _

theorem K_ofInt (n : Int) : K (ofInt n) = if n < 0 then -(V (rn (n.natAbs * 2 ^ unit) 1) : Int) else (V (rn (n.natAbs * 2 ^ unit) 1) : Int) := by
  obtain ⟨r1, r2, r3⟩ := ofInt_fine n
  unfold K
  rw [r1, r2]
  by_cases hn : n < 0 <;> simp [hn]

theorem K_mono (n m : Int) (h : n ≤ m) : K (ofInt n) ≤ K (ofInt m) := by
  rw [K_ofInt, K_ofInt]
  have step : ∀ a b : Nat, a ≤ b → V (rn (a * 2 ^ unit) 1) ≤ V (rn (b * 2 ^ unit) 1) := fun a b h => V_le _ _ (rn_mono1 _ _ (Nat.mul_le_mul_right _ h))
  by_cases h1 : n < 0 <;> by_cases h2 : m < 0
  · have := step m.natAbs n.natAbs (by omega)
    simp only [h1, h2, if_true]; omega
  · simp only [h1, h2, if_true, if_false]; omega
  · omega
  · have := step n.natAbs m.natAbs (by omega)
    simp only [h1, h2, if_false]; omega

theorem ofInt_le (n : Int) : rungOf (ofInt n) ≤ INF := by
  rw [(ofInt_fine n).1]; exact rn_le _ _

theorem fless_ofInt (n m : Int) (h : n ≤ m) : fless (ofInt m) (ofInt n) = false := by
  rw [fless_key _ _ (ofInt_le m) (ofInt_le n)]
  have := K_mono n m h
  simp; omega

theorem K_small (n : Int) (h1 : -2 ^ 53 ≤ n) (h2 : n ≤ 2 ^ 53) : K (ofInt n) = n * ((2 ^ unit : Nat) : Int) := by
  rw [K_ofInt]
  obtain ⟨B, b1, b2, b3, b4, b5, b6⟩ := round_int n.natAbs (by omega)
  have hB := b4 (by omega)
  rw [b1, hB, Int.natCast_mul]
  by_cases hn : n < 0
  · rw [if_pos hn]
    have : (n.natAbs : Int) = -n := by omega
    rw [this, Int.neg_mul, Int.neg_neg]
  · rw [if_neg hn]
    have : (n.natAbs : Int) = n := by omega
    rw [this]

theorem fless_small (n m : Int) (h : n < m) (h1 : -2 ^ 53 ≤ n) (h2 : m ≤ 2 ^ 53) : fless (ofInt n) (ofInt m) = true := by
  rw [fless_key _ _ (ofInt_le n) (ofInt_le m), K_small n h1 (by omega), K_small m (by omega) h2]
  have hui : (0 : Int) < ((2 ^ unit : Nat) : Int) := by have := Nat.two_pow_pos unit; omega
  exact decide_eq_true (Int.mul_lt_mul_of_pos_right h hui)
end Go.Proofs.YtfkdaimhdjaefaaDoor.Flt
