/- What the document's answer reckons, and the closed forms. -/
import Derived.Test.YtadlppllbebkdaaGreatDoorM9
import Derived.Test.YtadlppllbebkdaaGreatDoorM6
namespace Go.Proofs.YtadlppllbebkdaaGreatDoor
open Ieee

theorem rn_shift (A n u v u' v' : Nat) (h : u + v' = u' + v) : rn (A * 2 ^ u) (n * 2 ^ v) = rn (A * 2 ^ u') (n * 2 ^ v') := by
  rw [← rn_scale (A * 2 ^ u) (n * 2 ^ v) (2 ^ v') (Nat.two_pow_pos _), ← rn_scale (A * 2 ^ u') (n * 2 ^ v') (2 ^ v) (Nat.two_pow_pos _)]
  rw [Nat.mul_assoc, Nat.mul_assoc, Nat.mul_assoc, Nat.mul_assoc, ← pow_add', ← pow_add', ← pow_add', ← pow_add', h, Nat.add_comm v v']

/-- What 'rounded' tells of a whole number, without a rest. -/
theorem rungQ_false (Q : Nat) (e : Int) (u v : Nat) (h : (u : Int) - v = e + 1074) : (if Q = 0 then 0 else rungR Q false e) = rn (Q * 2 ^ u) (2 ^ v) := by
  by_cases h0 : Q = 0
  · rw [if_pos h0, h0, Nat.zero_mul]; rfl
  · rw [if_neg h0, rungR_rn Q false e h0 (by simp)]
    simp only [Bool.toNat_false, Nat.add_zero]
    rw [Nat.mul_comm 2 Q, Nat.mul_right_comm, Nat.mul_comm 2 (2 ^ _), rn_scale _ _ 2 (by decide)]
    have := rn_shift Q 1 (e + 1074).toNat (-(e + 1074)).toNat u v (by omega)
    rw [Nat.one_mul, Nat.one_mul] at this
    exact this

theorem mag_exp (r : Nat) (h : r < INF) : magOf r < 2 ^ 53 ∧ expOf r ≤ 2045 := by
  obtain ⟨h1, h2, h3⟩ := rung_pack r
  refine ⟨h2, ?_⟩
  have hI : INF = 2047 * 2 ^ 52 := rfl
  unfold expOf
  split
  · omega
  · omega

theorem mag_zero (r : Nat) : magOf r = 0 ↔ r = 0 := by
  unfold magOf
  split
  · exact Iff.rfl
  · omega

theorem word_sgn (s : Bool) (r : Nat) (h : r < 2 ^ 63) : negOf (double.word s r) = s ∧ rungOf (double.word s r) = r := ⟨negOf_word s r h, rungOf_word s r h⟩

/-- The sum. -/
theorem V_at (r k : Nat) (h : k ≤ expOf r) : V r = magOf r * 2 ^ (expOf r - k) * 2 ^ k := by
  unfold V
  rw [Nat.mul_assoc, ← pow_add', Nat.sub_add_cancel h]

theorem add_same (x y : Nat) (hx : rungOf x < INF) (hy : rungOf y < INF) (h0 : ¬ (rungOf x = 0 ∧ rungOf y = 0)) (hs : negOf x = negOf y) (k : Nat) (h1 : k ≤ expOf (rungOf x)) (h2 : k ≤ expOf (rungOf y)) :
    fadd x y = double.word (negOf x) (rn ((magOf (rungOf x) * 2 ^ (expOf (rungOf x) - k) + magOf (rungOf y) * 2 ^ (expOf (rungOf y) - k)) * 2 ^ k) 1) := by
  unfold fadd
  rw [add_fin x y hx hy, Nat.add_mul, ← V_at _ k h1, ← V_at _ k h2]
  have p : 0 < V (rungOf x) + V (rungOf y) := by
    by_cases hz : rungOf x = 0
    · have := V_pos (rungOf y) (by omega); omega
    · have := V_pos (rungOf x) (by omega); omega
  unfold K
  rw [← hs]
  cases negOf x
  · simp only [Bool.false_eq_true, if_false]
    rw [if_neg (by omega), show decide ((V (rungOf x) : Int) + (V (rungOf y) : Int) < 0) = false by rw [decide_eq_false_iff_not]; omega]
    rw [show ((V (rungOf x) : Int) + (V (rungOf y) : Int)).natAbs = V (rungOf x) + V (rungOf y) by omega]
    rfl
  · simp only [if_true]
    rw [if_neg (by omega), show decide (-(V (rungOf x) : Int) + -(V (rungOf y) : Int) < 0) = true by rw [decide_eq_true_iff]; omega]
    rw [show (-(V (rungOf x) : Int) + -(V (rungOf y) : Int)).natAbs = V (rungOf x) + V (rungOf y) by omega]
    rfl

theorem add_zeros (x y : Nat) (hx : rungOf x = 0) (hy : rungOf y = 0) : fadd x y = double.word (negOf x && negOf y) 0 := by
  unfold fadd
  have hI : INF = 2047 * 2 ^ 52 := rfl
  rw [add_fin x y (by omega) (by omega)]
  unfold K
  rw [hx, hy, V_zero]
  have : ∀ s : Bool, (if s = true then -((0 : Nat) : Int) else ((0 : Nat) : Int)) = 0 := by intro s; cases s <;> rfl
  rw [this, this]
  rfl

theorem add_apart (x y : Nat) (hx : rungOf x < INF) (hy : rungOf y < INF) (hs : negOf x ≠ negOf y) (k : Nat) (h1 : k ≤ expOf (rungOf x)) (h2 : k ≤ expOf (rungOf y)) (X Y : Nat)
    (hX : X = magOf (rungOf x) * 2 ^ (expOf (rungOf x) - k)) (hY : Y = magOf (rungOf y) * 2 ^ (expOf (rungOf y) - k)) :
    fadd x y = if X = Y then 0 else if Y < X then double.word (negOf x) (rn ((X - Y) * 2 ^ k) 1) else double.word (negOf y) (rn ((Y - X) * 2 ^ k) 1) := by
  unfold fadd
  have hp := Nat.two_pow_pos k
  have eX : V (rungOf x) = X * 2 ^ k := by rw [hX]; exact V_at _ k h1
  have eY : V (rungOf y) = Y * 2 ^ k := by rw [hY]; exact V_at _ k h2
  rw [add_fin x y hx hy]
  unfold K
  rw [eX, eY]
  have hny : negOf y = !negOf x := by cases hh : negOf x <;> cases hh' : negOf y <;> simp_all
  rw [hny]
  generalize 2 ^ k = p at *
  rcases Nat.lt_trichotomy X Y with h | h | h
  · have hl : X * p < Y * p := Nat.mul_lt_mul_of_pos_right h hp
    rw [if_neg (show ¬ X = Y by omega), if_neg (show ¬ Y < X by omega), Nat.sub_mul]
    cases negOf x
    · simp only [Bool.not_false, if_true, Bool.false_eq_true, if_false]
      rw [if_neg (by omega), show decide (((X * p : Nat) : Int) + -((Y * p : Nat) : Int) < 0) = true by rw [decide_eq_true_iff]; omega]
      rw [show (((X * p : Nat) : Int) + -((Y * p : Nat) : Int)).natAbs = Y * p - X * p by omega]
      rfl
    · simp only [Bool.not_true, if_true, Bool.false_eq_true, if_false]
      rw [if_neg (by omega), show decide (-((X * p : Nat) : Int) + ((Y * p : Nat) : Int) < 0) = false by rw [decide_eq_false_iff_not]; omega]
      rw [show (-((X * p : Nat) : Int) + ((Y * p : Nat) : Int)).natAbs = Y * p - X * p by omega]
      rfl
  · rw [if_pos h, h]
    cases negOf x
    · simp only [Bool.not_false, if_true, Bool.false_eq_true, if_false]
      rw [if_pos (by omega), show (((Y * p : Nat) : Int) + -((Y * p : Nat) : Int)).natAbs = 0 by omega]
      rfl
    · simp only [Bool.not_true, if_true, Bool.false_eq_true, if_false]
      rw [if_pos (by omega), show (-((Y * p : Nat) : Int) + ((Y * p : Nat) : Int)).natAbs = 0 by omega]
      rfl
  · have hl : Y * p < X * p := Nat.mul_lt_mul_of_pos_right h hp
    rw [if_neg (show ¬ X = Y by omega), if_pos h, Nat.sub_mul]
    cases negOf x
    · simp only [Bool.not_false, if_true, Bool.false_eq_true, if_false]
      rw [if_neg (by omega), show decide (((X * p : Nat) : Int) + -((Y * p : Nat) : Int) < 0) = false by rw [decide_eq_false_iff_not]; omega]
      rw [show (((X * p : Nat) : Int) + -((Y * p : Nat) : Int)).natAbs = X * p - Y * p by omega]
      rfl
    · simp only [Bool.not_true, if_true, Bool.false_eq_true, if_false]
      rw [if_neg (by omega), show decide (-((X * p : Nat) : Int) + ((Y * p : Nat) : Int) < 0) = true by rw [decide_eq_true_iff]; omega]
      rw [show (-((X * p : Nat) : Int) + ((Y * p : Nat) : Int)).natAbs = X * p - Y * p by omega]
      rfl

/-- The product. -/
theorem mul_ref (x y : Nat) (hx : rungOf x < INF) (hy : rungOf y < INF) (e f : Int) (he : e = (expOf (rungOf x) : Int) - 1074) (hf : f = (expOf (rungOf y) : Int) - 1074) :
    fmul x y = double.word (negOf x ^^ negOf y) (if magOf (rungOf x) * magOf (rungOf y) = 0 then 0 else rungR (magOf (rungOf x) * magOf (rungOf y)) false (e + f)) := by
  unfold fmul
  rw [mul_fin x y hx hy, rungQ_false _ (e + f) (expOf (rungOf x) + expOf (rungOf y)) unit (by have : unit = 1074 := rfl; omega)]
  unfold V
  rw [pow_add', ← Nat.mul_assoc, ← Nat.mul_assoc, Nat.mul_right_comm (magOf (rungOf x)) (magOf (rungOf y))]
  rfl

/-- The quotient. -/
theorem div_ref (x y : Nat) (hx : rungOf x < INF) (hy : rungOf y < INF) (hx0 : rungOf x ≠ 0) (hy0 : rungOf y ≠ 0) (e f : Int) (he : e = (expOf (rungOf x) : Int) - 1074) (hf : f = (expOf (rungOf y) : Int) - 1074)
    (m n : Nat) (hm : m = magOf (rungOf x)) (hn : n = magOf (rungOf y)) :
    m * 2 ^ 128 / n ≠ 0 ∧ fdiv x y = double.word (negOf x ^^ negOf y) (rungR (m * 2 ^ 128 / n) (m * 2 ^ 128 % n != 0) (e - f - 128)) := by
  have hn0 : 0 < n := by
    rw [hn]; have := mag_zero (rungOf y); omega
  have hm0 : 0 < m := by
    rw [hm]; have := mag_zero (rungOf x); omega
  have hnb : n < 2 ^ 53 := by rw [hn]; exact (mag_exp _ hy).1
  have hq : 2 ^ 53 ≤ m * 2 ^ 128 / n := by
    rw [Nat.le_div_iff_mul_le hn0]
    have : 2 ^ 53 * n ≤ 2 ^ 53 * 2 ^ 53 := Nat.mul_le_mul_left _ (by omega)
    have h2 : 1 * 2 ^ 128 ≤ m * 2 ^ 128 := Nat.mul_le_mul_right _ hm0
    exact Nat.le_trans this (Nat.le_trans (by decide) h2)
  refine ⟨by omega, ?_⟩
  unfold fdiv
  rw [div_fin x y hx hy hy0, rungR_rn _ _ _ (by omega) (fun _ => hq), rn_sticky (m * 2 ^ 128) n _ _ hn0 hq]
  have hu : unit = 1074 := rfl
  unfold V
  rw [← hm, ← hn, Nat.mul_assoc m, Nat.mul_assoc m, ← pow_add', ← pow_add']
  rw [rn_shift m n (expOf (rungOf x) + unit) (expOf (rungOf y)) _ _ (show expOf (rungOf x) + unit + (-(e - f - 128 + 1074)).toNat = 128 + (e - f - 128 + 1074).toNat + expOf (rungOf y) by omega)]
  rfl

/-- A whole number. -/
theorem ofInt_ref (n : Int) : ofInt n = double.word (decide (n < 0)) (if n.natAbs = 0 then 0 else rungR n.natAbs false 0) := by
  rw [ofInt_eq, rungQ_false n.natAbs 0 unit 0 (by have : unit = 1074 := rfl; omega), Nat.pow_zero]

end Go.Proofs.YtadlppllbebkdaaGreatDoor
