/- The small functions of package label, as contracts. -/
import Derived.Test.YtjjhfmiegoohlaaDoorRows
import Derived.Test.YtjjhfmiegoohlaaDoorM1
import Derived.WalkKit
import Derived.WalkSpells
import Derived.WalkLawsBesides
namespace Go.Proofs.YtjjhfmiegoohlaaDoor
open Go.RowKit

theorem ret_bool {a b : Bool} (h : a = b) : Ending.returned (.bool a) = .returned (.bool b) := by rw [h]
theorem ret_int {k : IntKind} {a b : Int} (h : a = b) : Ending.returned (.int k a) = .returned (.int k b) := by rw [h]
theorem int_beq (a b : Nat) : (((a : Int) == (b : Int)) : Bool) = (a == b) := by
  rw [Bool.eq_iff_iff]; simp only [beq_iff_eq]; omega

set_option maxHeartbeats 400000 in
theorem flows_any (a b : Nat) (ha : a < 18446744073709551616) (hb : b < 18446744073709551616) (w : World) :
    Calls Tryd.prog 9 #[.int .u64 a, .int .u64 b] w fun e w' => e = .returned (.bool (flowsB a b)) ∧ w' = w := by
  go_enter Tryd.func9, Tryd.ntmps9
  go_wp2
  go_ret
  refine ⟨ret_bool ?_, rfl⟩
  rw [u64_andNot_nat a b ha hb, ← flows_andNot a b ha hb]
  exact int_beq _ 0

set_option maxHeartbeats 400000 in
theorem join_any (a b : Nat) (ha : a < 18446744073709551616) (hb : b < 18446744073709551616) (w : World) :
    Calls Tryd.prog 11 #[.int .u64 a, .int .u64 b] w fun e w' => e = .returned (.int .u64 (a ||| b : Nat)) ∧ w' = w := by
  go_enter Tryd.func11, Tryd.ntmps11
  go_wp2
  go_ret
  exact ⟨ret_int (u64_or_nat a b ha hb), rfl⟩

set_option maxHeartbeats 400000 in
theorem meet_any (a b : Nat) (ha : a < 18446744073709551616) (hb : b < 18446744073709551616) (w : World) :
    Calls Tryd.prog 13 #[.int .u64 a, .int .u64 b] w fun e w' => e = .returned (.int .u64 (a &&& b : Nat)) ∧ w' = w := by
  go_enter Tryd.func13, Tryd.ntmps13
  go_wp2
  go_ret
  exact ⟨ret_int (u64_and_nat a b ha hb), rfl⟩

set_option maxHeartbeats 400000 in
theorem only_any (n : Nat) (h : n < 64) (w : World) :
    Calls Tryd.prog 24 #[.int .i64 n] w fun e w' => e = .returned (.int .u64 (onlyN n : Nat)) ∧ w' = w := by
  go_enter Tryd.func24, Tryd.ntmps24
  go_wp2
  go_ret
  refine ⟨ret_int ?_, rfl⟩
  rw [IntKind.wrap_u64]
  have := onlyN_lt n h
  have e : (2 : Int) ^ n = ((onlyN n : Nat) : Int) := by unfold onlyN; simp
  rw [e]
  exact Int.emod_eq_of_lt (by omega) (by omega)

set_option maxHeartbeats 400000 in
theorem has_any (a : Nat) (n : Int) (ha : a < 18446744073709551616) (w : World) :
    Calls Tryd.prog 15 #[.int .u64 a, .int .i64 n] w fun e w' => e = .returned (.bool (hasI a n)) ∧ w' = w := by
  by_cases h0 : 0 ≤ n
  · obtain ⟨m, rfl⟩ := Int.eq_ofNat_of_zero_le h0
    by_cases h1 : m < 64
    · have hp := onlyN_lt m h1
      have e1 : hasI a (m : Int) = a.testBit m := by
        unfold hasI
        rw [decide_eq_true h0, decide_eq_true (show (m : Int) < 64 by omega), Int.toNat_natCast]; rfl
      rw [e1]
      go_enter Tryd.func15, Tryd.ntmps15
      go_wp2_with (go_at_call 24; refine (only_any m h1 _).mono ?_; rintro e w' ⟨rfl, rfl⟩)
      go_ret
      refine ⟨ret_bool ?_, rfl⟩
      rw [u64_and_nat a _ ha hp, ← has_and a m]
      exact congrArg _ (int_beq _ 0)
    · have h2 : decide ((m : Int) < 64) = false := by simp; omega
      have e1 : hasI a (m : Int) = false := by unfold hasI; rw [h2]; simp
      rw [e1]
      go_enter Tryd.func15, Tryd.ntmps15
      go_wp2
      go_ret
      exact ⟨rfl, rfl⟩
  · have h2 : decide (0 ≤ n) = false := by simp; omega
    have e1 : hasI a n = false := by unfold hasI; rw [h2]; simp
    rw [e1]
    go_enter Tryd.func15, Tryd.ntmps15
    go_wp2
    go_ret
    exact ⟨rfl, rfl⟩
end Go.Proofs.YtjjhfmiegoohlaaDoor
