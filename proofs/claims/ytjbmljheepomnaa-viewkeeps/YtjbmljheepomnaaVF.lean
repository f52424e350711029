/- Flows, the program's and the document's. -/
import Derived.Test.YtjbmljheepomnaaV0
namespace Go.Proofs.Ytjbmljheepomnaa
open Go.RowKit

theorem andNot_tb (b i : Nat) (hb : b < 18446744073709551616) : (18446744073709551615 - b).testBit i = (decide (i < 64) && !b.testBit i) := by
  have := Nat.testBit_two_pow_sub_succ (n := 64) (x := b) (by simpa using hb) i
  rw [← this]
  congr 1
  omega
theorem tb_big (a i : Nat) (ha : a < 18446744073709551616) (hi : 64 ≤ i) : a.testBit i = false := by
  apply Nat.testBit_lt_two_pow
  exact Nat.lt_of_lt_of_le (show a < 2 ^ 64 by simpa using ha) (Nat.pow_le_pow_right (by decide) hi)
theorem flows_andNot (a b : Nat) (ha : a < 18446744073709551616) (hb : b < 18446744073709551616) :
    ((a &&& (18446744073709551615 - b)) == 0) = flowsN a b := by
  rw [Bool.eq_iff_iff, flowsN_iff, beq_iff_eq]
  constructor
  · intro h i hi
    have := congrArg (fun x => x.testBit i) h
    simp only [Nat.testBit_and, hi, andNot_tb b i hb, Nat.zero_testBit, Bool.true_and] at this
    by_cases h64 : i < 64
    · simpa [h64] using this
    · rw [tb_big a i ha (by omega)] at hi; cases hi
  · intro h
    apply Nat.eq_of_testBit_eq
    intro i
    rw [Nat.testBit_and, andNot_tb b i hb, Nat.zero_testBit]
    cases hi : a.testBit i
    · rfl
    · simp [h i hi]
theorem int_beq (a b : Nat) : (((a : Int) == (b : Int)) : Bool) = (a == b) := by
  rw [Bool.eq_iff_iff]; simp only [beq_iff_eq]; omega
set_option maxHeartbeats 400000 in
theorem lflows_any (a b : Nat) (ha : a < 18446744073709551616) (hb : b < 18446744073709551616) (w : World) :
    Calls Try.prog 27 #[.int .u64 a, .int .u64 b] w fun e w' => e = .returned (.bool (flowsN a b)) ∧ w' = w := by
  go_enter Try.func27, Try.ntmps27
  go_wp2
  go_ret
  refine ⟨ret_bool ?_, rfl⟩
  rw [u64_andNot_nat a b ha hb, ← flows_andNot a b ha hb]
  exact int_beq _ 0
set_option maxHeartbeats 400000 in
theorem rhas_at (a m : Nat) (b : Bool) (ha : a < 18446744073709551616) (hm : m < 64) (hb : a.testBit m = b) (w : World) :
    Calls Try.prog 43 #[.int .u64 a, .int .i64 m] w fun e w' => e = .returned (.bool b) ∧ w' = w := by
  rw [← hb]
  clear hb
  have h0 : (0 : Int) ≤ (m : Int) := by omega
  have h1 : (m : Int) ≤ 63 := by omega
  go_enter Try.func43, Try.ntmps43
  go_wp2
  go_ret
  refine ⟨ret_bool ?_, rfl⟩
  have e2 : (a : Int) / 2 ^ m = ((a / 2 ^ m : Nat) : Int) := by simp
  have h3 : a / 2 ^ m ≤ a := Nat.div_le_self _ _
  have h4 := u64_and_nat (a / 2 ^ m) 1 (by omega) (by decide)
  rw [e2, show (1 : Int) = ((1 : Nat) : Int) from rfl, h4, int_beq, Nat.testBit_eq_decide_div_mod_eq, Nat.and_one_is_mod]
  rcases Nat.mod_two_eq_zero_or_one (a / 2 ^ m) with h | h <;> simp [h]
theorem flows_all (a b : Nat) (ha : a < 18446744073709551616) (h : ∀ i, i < 64 → a.testBit i = true → b.testBit i = true) : flowsN a b = true := by
  rw [flowsN_iff]
  intro i hi
  by_cases h64 : i < 64
  · exact h i h64 hi
  · rw [tb_big a i ha (by omega)] at hi; cases hi
theorem flows_not (a b i : Nat) (h1 : a.testBit i = true) (h2 : b.testBit i = false) : flowsN a b = false := by
  cases h : flowsN a b
  · rfl
  · rw [flowsN_iff] at h
    rw [h i h1] at h2
    cases h2
set_option maxHeartbeats 1000000 in
theorem rflows_any (a b : Nat) (ha : a < 18446744073709551616) (_hb : b < 18446744073709551616) (w : World) :
    Calls Try.prog 34 #[.int .u64 a, .int .u64 b] w fun e w' => e = .returned (.bool (flowsN a b)) ∧ w' = w := by
  go_enter Try.func34, Try.ntmps34
  go_wp2
  go_loop [5] (fun i => ∃ k : Nat, k ≤ 64 ∧ i = .int .i64 k ∧ Hid (∀ i, i < k → a.testBit i = true → b.testBit i = true)) (fun i => 64 - (intOf i).toNat)
  case atStart => exact ⟨0, Nat.zero_le _, rfl, fun i hi => absurd hi (Nat.not_lt_zero i)⟩
  case round =>
    obtain ⟨k, hk, rfl, hall⟩ := hrel
    by_cases hlt : k < 64
    · cases h1 : a.testBit k
      · have H : Hid (∀ i, i < k + 1 → a.testBit i = true → b.testBit i = true) := fun i hi hx => by
          by_cases e : i = k
          · subst e; rw [h1] at hx; cases hx
          · exact hall i (by omega) hx
        go_wp2_with (go_at_call 43; refine (rhas_at a k false ha hlt h1 _).mono ?_; rintro e w' ⟨rfl, rfl⟩)
        go_round
        case rel => exact ⟨k + 1, by omega, by go_num, H⟩
        case measure => simp [intOf]; omega
      · cases h2 : b.testBit k
        · have hf := flows_not a b k h1 h2
          go_wp2_with fail
          refine (rhas_at a k true ha hlt h1 _).mono ?_
          rintro e w' ⟨rfl, rfl⟩
          go_wp2_with fail
          refine (rhas_at b k false (by assumption) hlt h2 _).mono ?_
          rintro e w' ⟨rfl, rfl⟩
          go_wp2
          go_ret
          exact ⟨ret_bool hf.symm, rfl⟩
        · have H : Hid (∀ i, i < k + 1 → a.testBit i = true → b.testBit i = true) := fun i hi hx => by
            by_cases e : i = k
            · subst e; exact h2
            · exact hall i (by omega) hx
          go_wp2_with fail
          refine (rhas_at a k true ha hlt h1 _).mono ?_
          rintro e w' ⟨rfl, rfl⟩
          go_wp2_with fail
          refine (rhas_at b k true (by assumption) hlt h2 _).mono ?_
          rintro e w' ⟨rfl, rfl⟩
          go_wp2
          go_round
          case rel => exact ⟨k + 1, by omega, by go_num, H⟩
          case measure => simp [intOf]; omega
    · have hf := flows_all a b ha (fun i hi => hall i (by omega))
      go_wp2
      go_ret
      exact ⟨rfl, rfl⟩
end Go.Proofs.Ytjbmljheepomnaa
