/- The document's answer: signs, parts, isNaN, product, float. -/
import Derived.Test.YtadlppllbebkdaaGreatDoorZVd
import Derived.Test.YtadlppllbebkdaaGreatDoorZMb
import Derived.Test.YtadlppllbebkdaaGreatDoorZXd
namespace Go.Proofs.YtadlppllbebkdaaGreatDoor
open Go.RowKit

theorem rung_bits (a : Nat) (h : a < 18446744073709551616) : bits .andNot .u64 (a : Int) 9223372036854775808 = (rungOf a : Int) := by
  have h := u64_andNot_nat a 9223372036854775808 h (by omega)
  rw [show ((9223372036854775808 : Nat) : Int) = 9223372036854775808 from rfl] at h
  rw [h]
  have e : (18446744073709551615 - 9223372036854775808 : Nat) = 2 ^ 63 - 1 := by decide
  rw [e, Nat.and_two_pow_sub_one_eq_mod]
  rfl

theorem and_pow (a : Nat) : a &&& 2 ^ 63 = sgn (negOf a) := by
  have e : sgn (negOf a) = (if negOf a then 2 ^ 63 else 0) := by cases negOf a <;> rfl
  rw [e]
  apply Nat.eq_of_testBit_eq
  intro i
  have hb : negOf a = a.testBit 63 := by
    unfold negOf
    rw [Nat.testBit_eq_decide_div_mod_eq]
    rcases Nat.mod_two_eq_zero_or_one (a / 2 ^ 63) with h | h <;> rw [h] <;> rfl
  rw [Nat.testBit_and, Nat.testBit_two_pow]
  by_cases hi : 63 = i
  · subst hi
    rw [hb]
    cases a.testBit 63
    · rw [if_neg (by decide), Nat.zero_testBit]; rfl
    · rw [if_pos rfl, Nat.testBit_two_pow]; rfl
  · rw [decide_eq_false hi, Bool.and_false]
    cases negOf a
    · rw [if_neg (by decide), Nat.zero_testBit]
    · rw [if_pos rfl, Nat.testBit_two_pow, decide_eq_false hi]

theorem sgn_bits (a : Nat) (h : a < 18446744073709551616) : bits .and .u64 (a : Int) 9223372036854775808 = (sgn (negOf a) : Int) := by
  have h1 := u64_and_nat a 9223372036854775808 h (by omega)
  rw [show ((9223372036854775808 : Nat) : Int) = 9223372036854775808 from rfl] at h1
  rw [h1, show 9223372036854775808 = 2 ^ 63 by rfl, and_pow a]

theorem negOf_bit (a : Nat) : negOf a = a.testBit 63 := by
  unfold negOf
  rw [Nat.testBit_eq_decide_div_mod_eq]
  rcases Nat.mod_two_eq_zero_or_one (a / 2 ^ 63) with h | h <;> rw [h] <;> rfl

theorem xor_bits (a b : Nat) (ha : a < 18446744073709551616) (hb : b < 18446744073709551616) : ∃ X : Nat, bits .xor .u64 (a : Int) (b : Int) = (X : Int) ∧ bits .and .u64 (X : Int) 9223372036854775808 = (sgn (negOf a ^^ negOf b) : Int) := by
  refine ⟨a ^^^ b, u64_xor_nat a b ha hb, ?_⟩
  rw [sgn_bits (a ^^^ b) (Nat.xor_lt_two_pow (n := 64) ha hb), negOf_bit, negOf_bit, negOf_bit, Nat.testBit_xor]

theorem zero_bits (a b : Nat) (ha : a < 18446744073709551616) (hb : b < 18446744073709551616) (h1 : rungOf a = 0) (h2 : rungOf b = 0) : bits .and .u64 (a : Int) (b : Int) = ((Ieee.double.word (negOf a && negOf b) 0 : Nat) : Int) := by
  rw [u64_and_nat a b ha hb]
  have e1 := word_of a ha
  have e2 := word_of b hb
  rw [h1, word_eq] at e1
  rw [h2, word_eq] at e2
  rw [word_eq]
  rw [← e1, ← e2]
  cases hA : negOf a <;> cases hB : negOf b <;> simp [negOf]

theorem parts_any (r : Nat) (h : r < INF) (w : World) :
    Calls Tryz.prog 41 #[.int .u64 r] w fun e w' => e = .returned (.tuple #[.int .u64 (magOf r : Nat), .int .i64 ((expOf r : Int) - 1074)]) ∧ w' = w := by
  have hI : INF = 9218868437227405312 := rfl
  obtain ⟨t, ht⟩ : ∃ t, t = r / 4503599627370496 := ⟨_, rfl⟩
  obtain ⟨m, hm⟩ : ∃ m, m = r % 4503599627370496 := ⟨_, rfl⟩
  have e1 : (r : Int) / 4503599627370496 = (t : Int) := by omega
  have e2 : bits .and .u64 (r : Int) 4503599627370495 = (m : Int) := by
    have h1 := u64_and_nat r 4503599627370495 (by omega) (by omega)
    rw [show ((4503599627370495 : Nat) : Int) = 4503599627370495 from rfl] at h1
    rw [h1, show 4503599627370495 = 2 ^ 52 - 1 by rfl, Nat.and_two_pow_sub_one_eq_mod, hm]
  have e3 : bits .or .u64 (m : Int) 4503599627370496 = ((m + 4503599627370496 : Nat) : Int) := by
    have h1 := u64_or_nat m 4503599627370496 (by omega) (by omega)
    rw [show ((4503599627370496 : Nat) : Int) = 4503599627370496 from rfl] at h1
    have h2 := Nat.shiftLeft_add_eq_or_of_lt (i := 52) (show m < 2 ^ 52 by omega) 1
    rw [Nat.shiftLeft_eq, Nat.one_mul] at h2
    rw [h1, Nat.or_comm, show 4503599627370496 = 2 ^ 52 by rfl, ← h2, Nat.add_comm]
  have ht2 : t < 2047 := by omega
  by_cases c : t = 0
  · have f1 : magOf r = m := by unfold magOf; rw [if_pos (by omega)]; omega
    have f2 : expOf r = 0 := by unfold expOf; rw [if_pos (by omega)]
    rw [f1, f2]
    have c1 : ((t : Int) == 0) = true := by simp [c]
    clear c f1 f2 ht hm
    go_enter Tryz.func41, Tryz.ntmps41
    go_wp2_with fail
    go_ret2
    exact ⟨rfl, rfl⟩
  · have f1 : magOf r = m + 4503599627370496 := by unfold magOf; rw [if_neg (by omega)]; omega
    have f2 : (expOf r : Int) - 1074 = (t : Int) - 1075 := by unfold expOf; rw [if_neg (by omega)]; omega
    rw [f1, f2]
    have c1 : ((t : Int) == 0) = false := by simp; omega
    clear c f1 f2 ht hm
    go_enter Tryz.func41, Tryz.ntmps41
    go_wp2_with fail
    go_ret2
    exact ⟨rfl, rfl⟩

theorem isNaN23 (a : Nat) (h : a < 18446744073709551616) (w : World) :
    Calls Tryz.prog 23 #[.int .u64 a] w fun e w' => e = .returned (.bool (decide (INF < rungOf a))) ∧ w' = w := by
  have hA := rung_bits a h
  have hd : decide ((9218868437227405312 : Int) < (rungOf a : Int)) = decide (INF < rungOf a) := decide_eq_decide.2 (by have : INF = 9218868437227405312 := rfl; omega)
  go_enter Tryz.func23, Tryz.ntmps23
  go_wp2
  go_ret
  exact ⟨rfl, rfl⟩

theorem times_num (v : Value) (N m : Nat) (hN : N < BB ^ 400) (hm : m < BB) (w : World) (h : Num w v N) :
    Calls Tryz.prog 49 #[v, .int .u32 m] w fun e w' => ∃ v', e = .returned v' ∧ Num w' v' (m * N) ∧ Below w.heap.size w w' := by
  obtain ⟨l, h1, h2, h3⟩ := h
  have hl := norm_len l h2 400 (by rw [h3]; exact hN)
  have := times_any v l m (by omega) hm w h1
  rw [h3] at this
  exact this

theorem upBB (x j k : Nat) (h : x < BB ^ j) (hjk : j ≤ k) : x < BB ^ k := Nat.lt_of_lt_of_le h (Nat.pow_le_pow_right (by decide) hjk)
theorem low_BB (x k : Nat) (h : x < 18446744073709551616) (hk : 2 ≤ k) : x < BB ^ k := Nat.lt_of_lt_of_le h (show BB ^ 2 ≤ BB ^ k from Nat.pow_le_pow_right (by decide) hk)

theorem product_any (m n : Nat) (hm : m < 18446744073709551616) (hn : n < 18446744073709551616) (w : World) :
    Calls Tryz.prog 48 #[.int .u64 m, .int .u64 n] w fun e w' => ∃ v, e = .returned v ∧ Num w' v (m * n) ∧ Below w.heap.size w w' := by
  obtain ⟨lo, hlo⟩ : ∃ t, t = n % 4294967296 := ⟨_, rfl⟩
  obtain ⟨hi, hhi⟩ : ∃ t, t = n / 4294967296 := ⟨_, rfl⟩
  have e1 : IntKind.u32.wrap (n : Int) = (lo : Int) := by rw [wrap_u32, hlo]; rfl
  have e2 : (n : Int) / 4294967296 = (hi : Int) := by omega
  have hi2 : hi < 4294967296 := by omega
  have e3 : IntKind.u32.wrap (hi : Int) = (hi : Int) := by rw [wrap_u32, show hi % BB = hi from Nat.mod_eq_of_lt hi2]
  have lo2 : lo < 4294967296 := by omega
  have es : lo * m + hi * m * 2 ^ 32 = m * n := by
    have : n = lo + hi * 2 ^ 32 := by omega
    rw [this, Nat.mul_add, Nat.mul_comm lo m, Nat.mul_right_comm hi m, Nat.mul_comm (hi * 2 ^ 32) m]
  have HS := Lib.hid es
  clear es hlo hhi
  have h1 := of_any m hm w
  go_enter Tryz.func48, Tryz.ntmps48
  go_wp2_with fail
  refine h1.mono ?_
  rintro e w1 ⟨v1, rfl, n1, b1⟩
  have h2 := times_num v1 m lo (low_BB m 400 hm (by decide)) lo2 w1 n1
  clear h1
  go_wp2_with fail
  refine h2.mono ?_
  rintro e w2 ⟨v2, rfl, n2, b2⟩
  replace b1 := b1.trans (b2.mono b1.size)
  have h3 := of_any m hm w2
  clear h2 b2 n1
  go_wp2_with fail
  refine h3.mono ?_
  rintro e w3 ⟨v3, rfl, n3, b3⟩
  replace b1 := b1.trans (b3.mono b1.size)
  replace n2 := n2.kept b3
  have h4 := times_num v3 m hi (low_BB m 400 hm (by decide)) hi2 w3 n3
  clear h3 b3
  go_wp2_with fail
  refine h4.mono ?_
  rintro e w4 ⟨v4, rfl, n4, b4⟩
  replace b1 := b1.trans (b4.mono b1.size)
  replace n2 := n2.kept b4
  have hm1 : hi * m < BB ^ 3 := by
    have : hi * m ≤ 4294967296 * m := Nat.mul_le_mul_right _ (by omega)
    have e : BB ^ 3 = 4294967296 * 18446744073709551616 := by decide
    omega
  have H5 := Lib.hid (shift_any v4 (hi * m) 32 (by omega) (upBB _ 3 300 hm1 (by decide)) w4 n4)
  have HM1 := Lib.hid hm1
  clear h4 b4 n3 hm1
  have h5 := H5.out
  go_wp2_with fail
  refine h5.mono ?_
  rintro e w5 ⟨v5, rfl, n5, b5⟩
  replace b1 := b1.trans (b5.mono b1.size)
  replace n2 := n2.kept b5
  have hl : lo * m < BB ^ 400 := by
    have : lo * m ≤ 4294967296 * m := Nat.mul_le_mul_right _ (by omega)
    have e : BB ^ 3 = 4294967296 * 18446744073709551616 := by decide
    exact upBB _ 3 400 (show lo * m < BB ^ 3 by omega) (by decide)
  have hr : hi * m * 2 ^ 32 < BB ^ 400 := by
    have h1 : hi * m * 2 ^ 32 < BB ^ 3 * 2 ^ 32 := Nat.mul_lt_mul_of_pos_right HM1.out (by decide)
    have h2 : BB ^ 3 * 2 ^ 32 = BB ^ 4 := by decide
    rw [h2] at h1
    exact upBB _ 4 400 h1 (by decide)
  have h6 := sum_any v2 v5 _ _ hl hr w5 n2 n5
  rw [HS.out] at h6
  clear h5 H5 b5 n4 hl hr HM1
  go_wp2_with fail
  refine h6.mono ?_
  rintro e w6 ⟨v6, rfl, n6, b6⟩
  go_wp2_with fail
  go_ret
  exact ⟨_, rfl, n6, b1.trans (b6.mono b1.size)⟩

theorem float_any (n : Int) (h1 : -9223372036854775808 ≤ n) (h2 : n ≤ 9223372036854775807) (w : World) :
    Calls Tryz.prog 27 #[.int .i64 n] w fun e w' => e = .returned (.int .u64 (ofInt n : Nat)) ∧ Below w.heap.size w w' := by
  rw [ofInt_ref]
  by_cases c : n < 0
  · obtain ⟨A, hA⟩ : ∃ A, n.natAbs = A := ⟨_, rfl⟩
    have hA2 : -(n + 1) + 1 = (A : Int) := by omega
    have hA3 : A < 18446744073709551616 := by omega
    rw [hA, show decide (n < 0) = true by simp [c]]
    have hof := of_any A hA3 w
    clear hA
    obtain ⟨WW, hW⟩ : ∃ W, W = Ieee.double.word true (if A = 0 then 0 else rungR A false 0) := ⟨_, rfl⟩
    rw [← hW]
    have HW := Lib.hid hW
    clear hW
    go_enter Tryz.func27, Tryz.ntmps27
    go_wp2_with fail
    refine hof.mono ?_
    rintro e w1 ⟨v, rfl, n1, b1⟩
    have hr := rounded_any true v A 0 false (low_BB A 80 hA3 (by decide)) (by omega) (by omega) w1 n1
    rw [← HW.out] at hr
    clear hof
    go_wp2_with fail
    refine hr.mono ?_
    rintro e w2 ⟨rfl, b2⟩
    go_wp2_with fail
    go_ret
    exact ⟨rfl, b1.trans (b2.mono b1.size)⟩
  · obtain ⟨A, rfl⟩ : ∃ A : Nat, n = (A : Int) := ⟨n.toNat, by omega⟩
    have hA3 : A < 18446744073709551616 := by omega
    have c' : decide ((A : Int) < 0) = false := by simp
    rw [c', show (A : Int).natAbs = A from rfl]
    have hof := of_any A hA3 w
    obtain ⟨WW, hW⟩ : ∃ W, W = Ieee.double.word false (if A = 0 then 0 else rungR A false 0) := ⟨_, rfl⟩
    rw [← hW]
    have HW := Lib.hid hW
    clear hW
    go_enter Tryz.func27, Tryz.ntmps27
    go_wp2_with fail
    refine hof.mono ?_
    rintro e w1 ⟨v, rfl, n1, b1⟩
    have hr := rounded_any false v A 0 false (low_BB A 80 hA3 (by decide)) (by omega) (by omega) w1 n1
    rw [← HW.out] at hr
    clear hof
    go_wp2_with fail
    refine hr.mono ?_
    rintro e w2 ⟨rfl, b2⟩
    go_wp2_with fail
    go_ret
    exact ⟨rfl, b1.trans (b2.mono b1.size)⟩
end Go.Proofs.YtadlppllbebkdaaGreatDoor
