/- LabelOrder: the walk. -/
import Derived.Test.YtjjhfmiegoohlaaDoorW7
namespace Go.Proofs.YtjjhfmiegoohlaaDoor
open Go.RowKit

theorem flows_refl (a : Nat) : flowsB a a = true := by rw [flows_iff]; intro i h; exact h
theorem flows_anti (a b : Nat) (h : flowsB a b = true) (k : flowsB b a = true) : a = b := by
  rw [flows_iff] at h k
  apply Nat.eq_of_testBit_eq
  intro i
  rw [Bool.eq_iff_iff]
  exact ⟨h i, k i⟩
theorem flows_trans (a b c : Nat) (h : flowsB a b = true) (k : flowsB b c = true) : flowsB a c = true := by
  rw [flows_iff] at *
  exact fun i x => k i (h i x)
theorem flows_join_left (a b : Nat) : flowsB a (a ||| b) = true := by rw [flows_iff]; intro i h; simp [Nat.testBit_or, h]
theorem flows_join_right (a b : Nat) : flowsB b (a ||| b) = true := by rw [flows_iff]; intro i h; simp [Nat.testBit_or, h]
theorem flows_meet_left (a b : Nat) : flowsB (a &&& b) a = true := by
  rw [flows_iff]; intro i h; rw [Nat.testBit_and, Bool.and_eq_true] at h; exact h.1
theorem flows_meet_right (a b : Nat) : flowsB (a &&& b) b = true := by
  rw [flows_iff]; intro i h; rw [Nat.testBit_and, Bool.and_eq_true] at h; exact h.2
theorem flows_join (a b c : Nat) : flowsB (a ||| b) c = (flowsB a c && flowsB b c) := by
  rw [Bool.eq_iff_iff, Bool.and_eq_true, flows_iff, flows_iff, flows_iff]
  constructor
  · intro h
    exact ⟨fun i x => h i (by simp [Nat.testBit_or, x]), fun i x => h i (by simp [Nat.testBit_or, x])⟩
  · rintro ⟨h, k⟩ i x
    rw [Nat.testBit_or, Bool.or_eq_true] at x
    exact x.elim (h i) (k i)
theorem flows_meet (a b c : Nat) : flowsB c (a &&& b) = (flowsB c a && flowsB c b) := by
  rw [Bool.eq_iff_iff, Bool.and_eq_true, flows_iff, flows_iff, flows_iff]
  constructor
  · intro h
    refine ⟨fun i x => ?_, fun i x => ?_⟩
    · have := h i x; rw [Nat.testBit_and, Bool.and_eq_true] at this; exact this.1
    · have := h i x; rw [Nat.testBit_and, Bool.and_eq_true] at this; exact this.2
  · rintro ⟨h, k⟩ i x
    rw [Nat.testBit_and, h i x, k i x]; rfl
theorem cntTo_or_and (a b n : Nat) : cntTo (a ||| b) n + cntTo (a &&& b) n = cntTo a n + cntTo b n := by
  induction n with
  | zero => rfl
  | succ n ih =>
    simp only [cntTo, Nat.testBit_or, Nat.testBit_and]
    cases a.testBit n <;> cases b.testBit n <;> simp <;> omega
theorem or_lt' (a b : Nat) (ha : a < 18446744073709551616) (hb : b < 18446744073709551616) : a ||| b < 18446744073709551616 := by
  have := Nat.or_lt_two_pow (n := 64) (x := a) (y := b) (by simpa using ha) (by simpa using hb)
  simpa using this
theorem and_lt' (a b : Nat) (ha : a < 18446744073709551616) : a &&& b < 18446744073709551616 :=
  Nat.lt_of_le_of_lt Nat.and_le_left ha

theorem count_eq (a b : Nat) : (((cnt (a ||| b) : Int) + (cnt (a &&& b) : Int) == (cnt a : Int) + (cnt b : Int)) : Bool) = true := by
  have f8 := cntTo_or_and a b 64
  change cnt (a ||| b) + cnt (a &&& b) = cnt a + cnt b at f8
  rw [beq_iff_eq]; omega

set_option maxRecDepth 100000 in
set_option maxHeartbeats 1000000 in
theorem order_0 (a b c : Nat) (ha : a < 18446744073709551616) (hb : b < 18446744073709551616) (hc : c < 18446744073709551616) (w : World) (hab : flowsB a b = false) (hac : flowsB a c = false) (hca : flowsB c a = false) (f6 : flowsB (a ||| b) c = false) (f7 : flowsB c (a &&& b) = false) :
    Calls Tryd.prog 5 #[.int .u64 a, .int .u64 b, .int .u64 c] w fun e w' => e = .returned (.bool true) ∧ Below w.heap.size w w' := by
  have f1 := flows_refl a
  have f2 := flows_join_left a b
  have f3 := flows_join_right a b
  have f4 := flows_meet_left a b
  have f5 := flows_meet_right a b
  have hj := or_lt' a b ha hb
  have hm := and_lt' a b ha
  have c1 : cnt (a ||| b) ≤ 64 := cntTo_le (a ||| b) 64
  have c2 : cnt (a &&& b) ≤ 64 := cntTo_le (a &&& b) 64
  have c3 : cnt a ≤ 64 := cntTo_le a 64
  have c4 : cnt b ≤ 64 := cntTo_le b 64
  have f9 := count_eq a b
  go_enter Tryd.func5, Tryd.ntmps5
  go_wp2_with (first | (go_at_call 8; refine (awake_any _).mono ?_; rintro e w1 ⟨rfl, hb1⟩) | (go_at_call 9; refine (flows_any _ _ (by assumption) (by assumption) _).mono ?_; rintro e w2 ⟨rfl, rfl⟩) | (go_at_call 11; refine (join_any _ _ (by assumption) (by assumption) _).mono ?_; rintro e w2 ⟨rfl, rfl⟩) | (go_at_call 13; refine (meet_any _ _ (by assumption) (by assumption) _).mono ?_; rintro e w2 ⟨rfl, rfl⟩) | (go_at_call 17; refine (count_any _ (by assumption) _).mono ?_; rintro e w2 ⟨rfl, rfl⟩))
  go_ret
  exact ⟨rfl, hb1⟩

set_option maxRecDepth 100000 in
set_option maxHeartbeats 1000000 in
theorem order_1 (a b c : Nat) (ha : a < 18446744073709551616) (hb : b < 18446744073709551616) (hc : c < 18446744073709551616) (w : World) (hab : flowsB a b = false) (hac : flowsB a c = false) (hca : flowsB c a = true) (hcb : flowsB c b = false) (f6 : flowsB (a ||| b) c = false) (f7 : flowsB c (a &&& b) = false) :
    Calls Tryd.prog 5 #[.int .u64 a, .int .u64 b, .int .u64 c] w fun e w' => e = .returned (.bool true) ∧ Below w.heap.size w w' := by
  have f1 := flows_refl a
  have f2 := flows_join_left a b
  have f3 := flows_join_right a b
  have f4 := flows_meet_left a b
  have f5 := flows_meet_right a b
  have hj := or_lt' a b ha hb
  have hm := and_lt' a b ha
  have c1 : cnt (a ||| b) ≤ 64 := cntTo_le (a ||| b) 64
  have c2 : cnt (a &&& b) ≤ 64 := cntTo_le (a &&& b) 64
  have c3 : cnt a ≤ 64 := cntTo_le a 64
  have c4 : cnt b ≤ 64 := cntTo_le b 64
  have f9 := count_eq a b
  go_enter Tryd.func5, Tryd.ntmps5
  go_wp2_with (first | (go_at_call 8; refine (awake_any _).mono ?_; rintro e w1 ⟨rfl, hb1⟩) | (go_at_call 9; refine (flows_any _ _ (by assumption) (by assumption) _).mono ?_; rintro e w2 ⟨rfl, rfl⟩) | (go_at_call 11; refine (join_any _ _ (by assumption) (by assumption) _).mono ?_; rintro e w2 ⟨rfl, rfl⟩) | (go_at_call 13; refine (meet_any _ _ (by assumption) (by assumption) _).mono ?_; rintro e w2 ⟨rfl, rfl⟩) | (go_at_call 17; refine (count_any _ (by assumption) _).mono ?_; rintro e w2 ⟨rfl, rfl⟩))
  go_ret
  exact ⟨rfl, hb1⟩

set_option maxRecDepth 100000 in
set_option maxHeartbeats 1000000 in
theorem order_2 (a b c : Nat) (ha : a < 18446744073709551616) (hb : b < 18446744073709551616) (hc : c < 18446744073709551616) (w : World) (hab : flowsB a b = false) (hac : flowsB a c = false) (hca : flowsB c a = true) (hcb : flowsB c b = true) (f6 : flowsB (a ||| b) c = false) (f7 : flowsB c (a &&& b) = true) :
    Calls Tryd.prog 5 #[.int .u64 a, .int .u64 b, .int .u64 c] w fun e w' => e = .returned (.bool true) ∧ Below w.heap.size w w' := by
  have f1 := flows_refl a
  have f2 := flows_join_left a b
  have f3 := flows_join_right a b
  have f4 := flows_meet_left a b
  have f5 := flows_meet_right a b
  have hj := or_lt' a b ha hb
  have hm := and_lt' a b ha
  have c1 : cnt (a ||| b) ≤ 64 := cntTo_le (a ||| b) 64
  have c2 : cnt (a &&& b) ≤ 64 := cntTo_le (a &&& b) 64
  have c3 : cnt a ≤ 64 := cntTo_le a 64
  have c4 : cnt b ≤ 64 := cntTo_le b 64
  have f9 := count_eq a b
  go_enter Tryd.func5, Tryd.ntmps5
  go_wp2_with (first | (go_at_call 8; refine (awake_any _).mono ?_; rintro e w1 ⟨rfl, hb1⟩) | (go_at_call 9; refine (flows_any _ _ (by assumption) (by assumption) _).mono ?_; rintro e w2 ⟨rfl, rfl⟩) | (go_at_call 11; refine (join_any _ _ (by assumption) (by assumption) _).mono ?_; rintro e w2 ⟨rfl, rfl⟩) | (go_at_call 13; refine (meet_any _ _ (by assumption) (by assumption) _).mono ?_; rintro e w2 ⟨rfl, rfl⟩) | (go_at_call 17; refine (count_any _ (by assumption) _).mono ?_; rintro e w2 ⟨rfl, rfl⟩))
  go_ret
  exact ⟨rfl, hb1⟩

set_option maxRecDepth 100000 in
set_option maxHeartbeats 1000000 in
theorem order_3 (a b c : Nat) (ha : a < 18446744073709551616) (hb : b < 18446744073709551616) (hc : c < 18446744073709551616) (w : World) (hab : flowsB a b = false) (hac : flowsB a c = true) (hbc : flowsB b c = false) (hca : flowsB c a = false) (f6 : flowsB (a ||| b) c = false) (f7 : flowsB c (a &&& b) = false) :
    Calls Tryd.prog 5 #[.int .u64 a, .int .u64 b, .int .u64 c] w fun e w' => e = .returned (.bool true) ∧ Below w.heap.size w w' := by
  have f1 := flows_refl a
  have f2 := flows_join_left a b
  have f3 := flows_join_right a b
  have f4 := flows_meet_left a b
  have f5 := flows_meet_right a b
  have hj := or_lt' a b ha hb
  have hm := and_lt' a b ha
  have c1 : cnt (a ||| b) ≤ 64 := cntTo_le (a ||| b) 64
  have c2 : cnt (a &&& b) ≤ 64 := cntTo_le (a &&& b) 64
  have c3 : cnt a ≤ 64 := cntTo_le a 64
  have c4 : cnt b ≤ 64 := cntTo_le b 64
  have f9 := count_eq a b
  go_enter Tryd.func5, Tryd.ntmps5
  go_wp2_with (first | (go_at_call 8; refine (awake_any _).mono ?_; rintro e w1 ⟨rfl, hb1⟩) | (go_at_call 9; refine (flows_any _ _ (by assumption) (by assumption) _).mono ?_; rintro e w2 ⟨rfl, rfl⟩) | (go_at_call 11; refine (join_any _ _ (by assumption) (by assumption) _).mono ?_; rintro e w2 ⟨rfl, rfl⟩) | (go_at_call 13; refine (meet_any _ _ (by assumption) (by assumption) _).mono ?_; rintro e w2 ⟨rfl, rfl⟩) | (go_at_call 17; refine (count_any _ (by assumption) _).mono ?_; rintro e w2 ⟨rfl, rfl⟩))
  go_ret
  exact ⟨rfl, hb1⟩

set_option maxRecDepth 100000 in
set_option maxHeartbeats 1000000 in
theorem order_4 (a b c : Nat) (ha : a < 18446744073709551616) (hb : b < 18446744073709551616) (hc : c < 18446744073709551616) (w : World) (hab : flowsB a b = false) (hac : flowsB a c = true) (hbc : flowsB b c = false) (hca : flowsB c a = true) (hcb : flowsB c b = false) (f6 : flowsB (a ||| b) c = false) (f7 : flowsB c (a &&& b) = false) :
    Calls Tryd.prog 5 #[.int .u64 a, .int .u64 b, .int .u64 c] w fun e w' => e = .returned (.bool true) ∧ Below w.heap.size w w' := by
  have f1 := flows_refl a
  have f2 := flows_join_left a b
  have f3 := flows_join_right a b
  have f4 := flows_meet_left a b
  have f5 := flows_meet_right a b
  have hj := or_lt' a b ha hb
  have hm := and_lt' a b ha
  have c1 : cnt (a ||| b) ≤ 64 := cntTo_le (a ||| b) 64
  have c2 : cnt (a &&& b) ≤ 64 := cntTo_le (a &&& b) 64
  have c3 : cnt a ≤ 64 := cntTo_le a 64
  have c4 : cnt b ≤ 64 := cntTo_le b 64
  have f9 := count_eq a b
  go_enter Tryd.func5, Tryd.ntmps5
  go_wp2_with (first | (go_at_call 8; refine (awake_any _).mono ?_; rintro e w1 ⟨rfl, hb1⟩) | (go_at_call 9; refine (flows_any _ _ (by assumption) (by assumption) _).mono ?_; rintro e w2 ⟨rfl, rfl⟩) | (go_at_call 11; refine (join_any _ _ (by assumption) (by assumption) _).mono ?_; rintro e w2 ⟨rfl, rfl⟩) | (go_at_call 13; refine (meet_any _ _ (by assumption) (by assumption) _).mono ?_; rintro e w2 ⟨rfl, rfl⟩) | (go_at_call 17; refine (count_any _ (by assumption) _).mono ?_; rintro e w2 ⟨rfl, rfl⟩))
  go_ret
  exact ⟨rfl, hb1⟩

set_option maxRecDepth 100000 in
set_option maxHeartbeats 1000000 in
theorem order_5 (a b c : Nat) (ha : a < 18446744073709551616) (hb : b < 18446744073709551616) (hc : c < 18446744073709551616) (w : World) (hab : flowsB a b = false) (hac : flowsB a c = true) (hbc : flowsB b c = false) (hca : flowsB c a = true) (hcb : flowsB c b = true) (f6 : flowsB (a ||| b) c = false) (f7 : flowsB c (a &&& b) = true) :
    Calls Tryd.prog 5 #[.int .u64 a, .int .u64 b, .int .u64 c] w fun e w' => e = .returned (.bool true) ∧ Below w.heap.size w w' := by
  have f1 := flows_refl a
  have f2 := flows_join_left a b
  have f3 := flows_join_right a b
  have f4 := flows_meet_left a b
  have f5 := flows_meet_right a b
  have hj := or_lt' a b ha hb
  have hm := and_lt' a b ha
  have c1 : cnt (a ||| b) ≤ 64 := cntTo_le (a ||| b) 64
  have c2 : cnt (a &&& b) ≤ 64 := cntTo_le (a &&& b) 64
  have c3 : cnt a ≤ 64 := cntTo_le a 64
  have c4 : cnt b ≤ 64 := cntTo_le b 64
  have f9 := count_eq a b
  go_enter Tryd.func5, Tryd.ntmps5
  go_wp2_with (first | (go_at_call 8; refine (awake_any _).mono ?_; rintro e w1 ⟨rfl, hb1⟩) | (go_at_call 9; refine (flows_any _ _ (by assumption) (by assumption) _).mono ?_; rintro e w2 ⟨rfl, rfl⟩) | (go_at_call 11; refine (join_any _ _ (by assumption) (by assumption) _).mono ?_; rintro e w2 ⟨rfl, rfl⟩) | (go_at_call 13; refine (meet_any _ _ (by assumption) (by assumption) _).mono ?_; rintro e w2 ⟨rfl, rfl⟩) | (go_at_call 17; refine (count_any _ (by assumption) _).mono ?_; rintro e w2 ⟨rfl, rfl⟩))
  go_ret
  exact ⟨rfl, hb1⟩

set_option maxRecDepth 100000 in
set_option maxHeartbeats 1000000 in
theorem order_6 (a b c : Nat) (ha : a < 18446744073709551616) (hb : b < 18446744073709551616) (hc : c < 18446744073709551616) (w : World) (hab : flowsB a b = false) (hac : flowsB a c = true) (hbc : flowsB b c = true) (hca : flowsB c a = false) (f6 : flowsB (a ||| b) c = true) (f7 : flowsB c (a &&& b) = false) :
    Calls Tryd.prog 5 #[.int .u64 a, .int .u64 b, .int .u64 c] w fun e w' => e = .returned (.bool true) ∧ Below w.heap.size w w' := by
  have f1 := flows_refl a
  have f2 := flows_join_left a b
  have f3 := flows_join_right a b
  have f4 := flows_meet_left a b
  have f5 := flows_meet_right a b
  have hj := or_lt' a b ha hb
  have hm := and_lt' a b ha
  have c1 : cnt (a ||| b) ≤ 64 := cntTo_le (a ||| b) 64
  have c2 : cnt (a &&& b) ≤ 64 := cntTo_le (a &&& b) 64
  have c3 : cnt a ≤ 64 := cntTo_le a 64
  have c4 : cnt b ≤ 64 := cntTo_le b 64
  have f9 := count_eq a b
  go_enter Tryd.func5, Tryd.ntmps5
  go_wp2_with (first | (go_at_call 8; refine (awake_any _).mono ?_; rintro e w1 ⟨rfl, hb1⟩) | (go_at_call 9; refine (flows_any _ _ (by assumption) (by assumption) _).mono ?_; rintro e w2 ⟨rfl, rfl⟩) | (go_at_call 11; refine (join_any _ _ (by assumption) (by assumption) _).mono ?_; rintro e w2 ⟨rfl, rfl⟩) | (go_at_call 13; refine (meet_any _ _ (by assumption) (by assumption) _).mono ?_; rintro e w2 ⟨rfl, rfl⟩) | (go_at_call 17; refine (count_any _ (by assumption) _).mono ?_; rintro e w2 ⟨rfl, rfl⟩))
  go_ret
  exact ⟨rfl, hb1⟩

set_option maxRecDepth 100000 in
set_option maxHeartbeats 1000000 in
theorem order_7 (a b c : Nat) (ha : a < 18446744073709551616) (hb : b < 18446744073709551616) (hc : c < 18446744073709551616) (w : World) (hab : flowsB a b = false) (hac : flowsB a c = true) (hbc : flowsB b c = true) (hca : flowsB c a = true) (hcb : flowsB c b = false) (f6 : flowsB (a ||| b) c = true) (f7 : flowsB c (a &&& b) = false) :
    Calls Tryd.prog 5 #[.int .u64 a, .int .u64 b, .int .u64 c] w fun e w' => e = .returned (.bool true) ∧ Below w.heap.size w w' := by
  have f1 := flows_refl a
  have f2 := flows_join_left a b
  have f3 := flows_join_right a b
  have f4 := flows_meet_left a b
  have f5 := flows_meet_right a b
  have hj := or_lt' a b ha hb
  have hm := and_lt' a b ha
  have c1 : cnt (a ||| b) ≤ 64 := cntTo_le (a ||| b) 64
  have c2 : cnt (a &&& b) ≤ 64 := cntTo_le (a &&& b) 64
  have c3 : cnt a ≤ 64 := cntTo_le a 64
  have c4 : cnt b ≤ 64 := cntTo_le b 64
  have f9 := count_eq a b
  go_enter Tryd.func5, Tryd.ntmps5
  go_wp2_with (first | (go_at_call 8; refine (awake_any _).mono ?_; rintro e w1 ⟨rfl, hb1⟩) | (go_at_call 9; refine (flows_any _ _ (by assumption) (by assumption) _).mono ?_; rintro e w2 ⟨rfl, rfl⟩) | (go_at_call 11; refine (join_any _ _ (by assumption) (by assumption) _).mono ?_; rintro e w2 ⟨rfl, rfl⟩) | (go_at_call 13; refine (meet_any _ _ (by assumption) (by assumption) _).mono ?_; rintro e w2 ⟨rfl, rfl⟩) | (go_at_call 17; refine (count_any _ (by assumption) _).mono ?_; rintro e w2 ⟨rfl, rfl⟩))
  go_ret
  exact ⟨rfl, hb1⟩

set_option maxRecDepth 100000 in
set_option maxHeartbeats 1000000 in
theorem order_8 (a b c : Nat) (ha : a < 18446744073709551616) (hb : b < 18446744073709551616) (hc : c < 18446744073709551616) (w : World) (hab : flowsB a b = false) (hac : flowsB a c = true) (hbc : flowsB b c = true) (hca : flowsB c a = true) (hcb : flowsB c b = true) (f6 : flowsB (a ||| b) c = true) (f7 : flowsB c (a &&& b) = true) :
    Calls Tryd.prog 5 #[.int .u64 a, .int .u64 b, .int .u64 c] w fun e w' => e = .returned (.bool true) ∧ Below w.heap.size w w' := by
  have f1 := flows_refl a
  have f2 := flows_join_left a b
  have f3 := flows_join_right a b
  have f4 := flows_meet_left a b
  have f5 := flows_meet_right a b
  have hj := or_lt' a b ha hb
  have hm := and_lt' a b ha
  have c1 : cnt (a ||| b) ≤ 64 := cntTo_le (a ||| b) 64
  have c2 : cnt (a &&& b) ≤ 64 := cntTo_le (a &&& b) 64
  have c3 : cnt a ≤ 64 := cntTo_le a 64
  have c4 : cnt b ≤ 64 := cntTo_le b 64
  have f9 := count_eq a b
  go_enter Tryd.func5, Tryd.ntmps5
  go_wp2_with (first | (go_at_call 8; refine (awake_any _).mono ?_; rintro e w1 ⟨rfl, hb1⟩) | (go_at_call 9; refine (flows_any _ _ (by assumption) (by assumption) _).mono ?_; rintro e w2 ⟨rfl, rfl⟩) | (go_at_call 11; refine (join_any _ _ (by assumption) (by assumption) _).mono ?_; rintro e w2 ⟨rfl, rfl⟩) | (go_at_call 13; refine (meet_any _ _ (by assumption) (by assumption) _).mono ?_; rintro e w2 ⟨rfl, rfl⟩) | (go_at_call 17; refine (count_any _ (by assumption) _).mono ?_; rintro e w2 ⟨rfl, rfl⟩))
  go_ret
  exact ⟨rfl, hb1⟩

set_option maxRecDepth 100000 in
set_option maxHeartbeats 1000000 in
theorem order_9 (a b c : Nat) (ha : a < 18446744073709551616) (hb : b < 18446744073709551616) (hc : c < 18446744073709551616) (w : World) (hab : flowsB a b = true) (hba : flowsB b a = false) (hac : flowsB a c = false) (hbc : flowsB b c = false) (hca : flowsB c a = false) (f6 : flowsB (a ||| b) c = false) (f7 : flowsB c (a &&& b) = false) :
    Calls Tryd.prog 5 #[.int .u64 a, .int .u64 b, .int .u64 c] w fun e w' => e = .returned (.bool true) ∧ Below w.heap.size w w' := by
  have f1 := flows_refl a
  have f2 := flows_join_left a b
  have f3 := flows_join_right a b
  have f4 := flows_meet_left a b
  have f5 := flows_meet_right a b
  have hj := or_lt' a b ha hb
  have hm := and_lt' a b ha
  have c1 : cnt (a ||| b) ≤ 64 := cntTo_le (a ||| b) 64
  have c2 : cnt (a &&& b) ≤ 64 := cntTo_le (a &&& b) 64
  have c3 : cnt a ≤ 64 := cntTo_le a 64
  have c4 : cnt b ≤ 64 := cntTo_le b 64
  have f9 := count_eq a b
  go_enter Tryd.func5, Tryd.ntmps5
  go_wp2_with (first | (go_at_call 8; refine (awake_any _).mono ?_; rintro e w1 ⟨rfl, hb1⟩) | (go_at_call 9; refine (flows_any _ _ (by assumption) (by assumption) _).mono ?_; rintro e w2 ⟨rfl, rfl⟩) | (go_at_call 11; refine (join_any _ _ (by assumption) (by assumption) _).mono ?_; rintro e w2 ⟨rfl, rfl⟩) | (go_at_call 13; refine (meet_any _ _ (by assumption) (by assumption) _).mono ?_; rintro e w2 ⟨rfl, rfl⟩) | (go_at_call 17; refine (count_any _ (by assumption) _).mono ?_; rintro e w2 ⟨rfl, rfl⟩))
  go_ret
  exact ⟨rfl, hb1⟩

set_option maxRecDepth 100000 in
set_option maxHeartbeats 1000000 in
theorem order_10 (a b c : Nat) (ha : a < 18446744073709551616) (hb : b < 18446744073709551616) (hc : c < 18446744073709551616) (w : World) (hab : flowsB a b = true) (hba : flowsB b a = false) (hac : flowsB a c = false) (hbc : flowsB b c = false) (hca : flowsB c a = true) (hcb : flowsB c b = false) (f6 : flowsB (a ||| b) c = false) (f7 : flowsB c (a &&& b) = false) :
    Calls Tryd.prog 5 #[.int .u64 a, .int .u64 b, .int .u64 c] w fun e w' => e = .returned (.bool true) ∧ Below w.heap.size w w' := by
  have f1 := flows_refl a
  have f2 := flows_join_left a b
  have f3 := flows_join_right a b
  have f4 := flows_meet_left a b
  have f5 := flows_meet_right a b
  have hj := or_lt' a b ha hb
  have hm := and_lt' a b ha
  have c1 : cnt (a ||| b) ≤ 64 := cntTo_le (a ||| b) 64
  have c2 : cnt (a &&& b) ≤ 64 := cntTo_le (a &&& b) 64
  have c3 : cnt a ≤ 64 := cntTo_le a 64
  have c4 : cnt b ≤ 64 := cntTo_le b 64
  have f9 := count_eq a b
  go_enter Tryd.func5, Tryd.ntmps5
  go_wp2_with (first | (go_at_call 8; refine (awake_any _).mono ?_; rintro e w1 ⟨rfl, hb1⟩) | (go_at_call 9; refine (flows_any _ _ (by assumption) (by assumption) _).mono ?_; rintro e w2 ⟨rfl, rfl⟩) | (go_at_call 11; refine (join_any _ _ (by assumption) (by assumption) _).mono ?_; rintro e w2 ⟨rfl, rfl⟩) | (go_at_call 13; refine (meet_any _ _ (by assumption) (by assumption) _).mono ?_; rintro e w2 ⟨rfl, rfl⟩) | (go_at_call 17; refine (count_any _ (by assumption) _).mono ?_; rintro e w2 ⟨rfl, rfl⟩))
  go_ret
  exact ⟨rfl, hb1⟩

set_option maxRecDepth 100000 in
set_option maxHeartbeats 1000000 in
theorem order_11 (a b c : Nat) (ha : a < 18446744073709551616) (hb : b < 18446744073709551616) (hc : c < 18446744073709551616) (w : World) (hab : flowsB a b = true) (hba : flowsB b a = false) (hac : flowsB a c = false) (hbc : flowsB b c = false) (hca : flowsB c a = true) (hcb : flowsB c b = true) (f6 : flowsB (a ||| b) c = false) (f7 : flowsB c (a &&& b) = true) :
    Calls Tryd.prog 5 #[.int .u64 a, .int .u64 b, .int .u64 c] w fun e w' => e = .returned (.bool true) ∧ Below w.heap.size w w' := by
  have f1 := flows_refl a
  have f2 := flows_join_left a b
  have f3 := flows_join_right a b
  have f4 := flows_meet_left a b
  have f5 := flows_meet_right a b
  have hj := or_lt' a b ha hb
  have hm := and_lt' a b ha
  have c1 : cnt (a ||| b) ≤ 64 := cntTo_le (a ||| b) 64
  have c2 : cnt (a &&& b) ≤ 64 := cntTo_le (a &&& b) 64
  have c3 : cnt a ≤ 64 := cntTo_le a 64
  have c4 : cnt b ≤ 64 := cntTo_le b 64
  have f9 := count_eq a b
  go_enter Tryd.func5, Tryd.ntmps5
  go_wp2_with (first | (go_at_call 8; refine (awake_any _).mono ?_; rintro e w1 ⟨rfl, hb1⟩) | (go_at_call 9; refine (flows_any _ _ (by assumption) (by assumption) _).mono ?_; rintro e w2 ⟨rfl, rfl⟩) | (go_at_call 11; refine (join_any _ _ (by assumption) (by assumption) _).mono ?_; rintro e w2 ⟨rfl, rfl⟩) | (go_at_call 13; refine (meet_any _ _ (by assumption) (by assumption) _).mono ?_; rintro e w2 ⟨rfl, rfl⟩) | (go_at_call 17; refine (count_any _ (by assumption) _).mono ?_; rintro e w2 ⟨rfl, rfl⟩))
  go_ret
  exact ⟨rfl, hb1⟩

set_option maxRecDepth 100000 in
set_option maxHeartbeats 1000000 in
theorem order_12 (a b c : Nat) (ha : a < 18446744073709551616) (hb : b < 18446744073709551616) (hc : c < 18446744073709551616) (w : World) (hab : flowsB a b = true) (hba : flowsB b a = false) (hac : flowsB a c = true) (hbc : flowsB b c = false) (hca : flowsB c a = false) (f6 : flowsB (a ||| b) c = false) (f7 : flowsB c (a &&& b) = false) :
    Calls Tryd.prog 5 #[.int .u64 a, .int .u64 b, .int .u64 c] w fun e w' => e = .returned (.bool true) ∧ Below w.heap.size w w' := by
  have f1 := flows_refl a
  have f2 := flows_join_left a b
  have f3 := flows_join_right a b
  have f4 := flows_meet_left a b
  have f5 := flows_meet_right a b
  have hj := or_lt' a b ha hb
  have hm := and_lt' a b ha
  have c1 : cnt (a ||| b) ≤ 64 := cntTo_le (a ||| b) 64
  have c2 : cnt (a &&& b) ≤ 64 := cntTo_le (a &&& b) 64
  have c3 : cnt a ≤ 64 := cntTo_le a 64
  have c4 : cnt b ≤ 64 := cntTo_le b 64
  have f9 := count_eq a b
  go_enter Tryd.func5, Tryd.ntmps5
  go_wp2_with (first | (go_at_call 8; refine (awake_any _).mono ?_; rintro e w1 ⟨rfl, hb1⟩) | (go_at_call 9; refine (flows_any _ _ (by assumption) (by assumption) _).mono ?_; rintro e w2 ⟨rfl, rfl⟩) | (go_at_call 11; refine (join_any _ _ (by assumption) (by assumption) _).mono ?_; rintro e w2 ⟨rfl, rfl⟩) | (go_at_call 13; refine (meet_any _ _ (by assumption) (by assumption) _).mono ?_; rintro e w2 ⟨rfl, rfl⟩) | (go_at_call 17; refine (count_any _ (by assumption) _).mono ?_; rintro e w2 ⟨rfl, rfl⟩))
  go_ret
  exact ⟨rfl, hb1⟩

set_option maxRecDepth 100000 in
set_option maxHeartbeats 1000000 in
theorem order_13 (a b c : Nat) (ha : a < 18446744073709551616) (hb : b < 18446744073709551616) (hc : c < 18446744073709551616) (w : World) (hab : flowsB a b = true) (hba : flowsB b a = false) (hac : flowsB a c = true) (hbc : flowsB b c = false) (hca : flowsB c a = true) (hcb : flowsB c b = false) (f6 : flowsB (a ||| b) c = false) (f7 : flowsB c (a &&& b) = false) :
    Calls Tryd.prog 5 #[.int .u64 a, .int .u64 b, .int .u64 c] w fun e w' => e = .returned (.bool true) ∧ Below w.heap.size w w' := by
  have f1 := flows_refl a
  have f2 := flows_join_left a b
  have f3 := flows_join_right a b
  have f4 := flows_meet_left a b
  have f5 := flows_meet_right a b
  have hj := or_lt' a b ha hb
  have hm := and_lt' a b ha
  have c1 : cnt (a ||| b) ≤ 64 := cntTo_le (a ||| b) 64
  have c2 : cnt (a &&& b) ≤ 64 := cntTo_le (a &&& b) 64
  have c3 : cnt a ≤ 64 := cntTo_le a 64
  have c4 : cnt b ≤ 64 := cntTo_le b 64
  have f9 := count_eq a b
  go_enter Tryd.func5, Tryd.ntmps5
  go_wp2_with (first | (go_at_call 8; refine (awake_any _).mono ?_; rintro e w1 ⟨rfl, hb1⟩) | (go_at_call 9; refine (flows_any _ _ (by assumption) (by assumption) _).mono ?_; rintro e w2 ⟨rfl, rfl⟩) | (go_at_call 11; refine (join_any _ _ (by assumption) (by assumption) _).mono ?_; rintro e w2 ⟨rfl, rfl⟩) | (go_at_call 13; refine (meet_any _ _ (by assumption) (by assumption) _).mono ?_; rintro e w2 ⟨rfl, rfl⟩) | (go_at_call 17; refine (count_any _ (by assumption) _).mono ?_; rintro e w2 ⟨rfl, rfl⟩))
  go_ret
  exact ⟨rfl, hb1⟩

set_option maxRecDepth 100000 in
set_option maxHeartbeats 1000000 in
theorem order_14 (a b c : Nat) (ha : a < 18446744073709551616) (hb : b < 18446744073709551616) (hc : c < 18446744073709551616) (w : World) (hab : flowsB a b = true) (hba : flowsB b a = false) (hac : flowsB a c = true) (hbc : flowsB b c = false) (hca : flowsB c a = true) (hcb : flowsB c b = true) (f6 : flowsB (a ||| b) c = false) (f7 : flowsB c (a &&& b) = true) :
    Calls Tryd.prog 5 #[.int .u64 a, .int .u64 b, .int .u64 c] w fun e w' => e = .returned (.bool true) ∧ Below w.heap.size w w' := by
  have f1 := flows_refl a
  have f2 := flows_join_left a b
  have f3 := flows_join_right a b
  have f4 := flows_meet_left a b
  have f5 := flows_meet_right a b
  have hj := or_lt' a b ha hb
  have hm := and_lt' a b ha
  have c1 : cnt (a ||| b) ≤ 64 := cntTo_le (a ||| b) 64
  have c2 : cnt (a &&& b) ≤ 64 := cntTo_le (a &&& b) 64
  have c3 : cnt a ≤ 64 := cntTo_le a 64
  have c4 : cnt b ≤ 64 := cntTo_le b 64
  have f9 := count_eq a b
  go_enter Tryd.func5, Tryd.ntmps5
  go_wp2_with (first | (go_at_call 8; refine (awake_any _).mono ?_; rintro e w1 ⟨rfl, hb1⟩) | (go_at_call 9; refine (flows_any _ _ (by assumption) (by assumption) _).mono ?_; rintro e w2 ⟨rfl, rfl⟩) | (go_at_call 11; refine (join_any _ _ (by assumption) (by assumption) _).mono ?_; rintro e w2 ⟨rfl, rfl⟩) | (go_at_call 13; refine (meet_any _ _ (by assumption) (by assumption) _).mono ?_; rintro e w2 ⟨rfl, rfl⟩) | (go_at_call 17; refine (count_any _ (by assumption) _).mono ?_; rintro e w2 ⟨rfl, rfl⟩))
  go_ret
  exact ⟨rfl, hb1⟩

set_option maxRecDepth 100000 in
set_option maxHeartbeats 1000000 in
theorem order_15 (a b c : Nat) (ha : a < 18446744073709551616) (hb : b < 18446744073709551616) (hc : c < 18446744073709551616) (w : World) (hab : flowsB a b = true) (hba : flowsB b a = false) (hac : flowsB a c = true) (hbc : flowsB b c = true) (hca : flowsB c a = false) (f6 : flowsB (a ||| b) c = true) (f7 : flowsB c (a &&& b) = false) :
    Calls Tryd.prog 5 #[.int .u64 a, .int .u64 b, .int .u64 c] w fun e w' => e = .returned (.bool true) ∧ Below w.heap.size w w' := by
  have f1 := flows_refl a
  have f2 := flows_join_left a b
  have f3 := flows_join_right a b
  have f4 := flows_meet_left a b
  have f5 := flows_meet_right a b
  have hj := or_lt' a b ha hb
  have hm := and_lt' a b ha
  have c1 : cnt (a ||| b) ≤ 64 := cntTo_le (a ||| b) 64
  have c2 : cnt (a &&& b) ≤ 64 := cntTo_le (a &&& b) 64
  have c3 : cnt a ≤ 64 := cntTo_le a 64
  have c4 : cnt b ≤ 64 := cntTo_le b 64
  have f9 := count_eq a b
  go_enter Tryd.func5, Tryd.ntmps5
  go_wp2_with (first | (go_at_call 8; refine (awake_any _).mono ?_; rintro e w1 ⟨rfl, hb1⟩) | (go_at_call 9; refine (flows_any _ _ (by assumption) (by assumption) _).mono ?_; rintro e w2 ⟨rfl, rfl⟩) | (go_at_call 11; refine (join_any _ _ (by assumption) (by assumption) _).mono ?_; rintro e w2 ⟨rfl, rfl⟩) | (go_at_call 13; refine (meet_any _ _ (by assumption) (by assumption) _).mono ?_; rintro e w2 ⟨rfl, rfl⟩) | (go_at_call 17; refine (count_any _ (by assumption) _).mono ?_; rintro e w2 ⟨rfl, rfl⟩))
  go_ret
  exact ⟨rfl, hb1⟩

set_option maxRecDepth 100000 in
set_option maxHeartbeats 1000000 in
theorem order_16 (a b c : Nat) (ha : a < 18446744073709551616) (hb : b < 18446744073709551616) (hc : c < 18446744073709551616) (w : World) (hab : flowsB a b = true) (hba : flowsB b a = false) (hac : flowsB a c = true) (hbc : flowsB b c = true) (hca : flowsB c a = true) (hcb : flowsB c b = false) (f6 : flowsB (a ||| b) c = true) (f7 : flowsB c (a &&& b) = false) :
    Calls Tryd.prog 5 #[.int .u64 a, .int .u64 b, .int .u64 c] w fun e w' => e = .returned (.bool true) ∧ Below w.heap.size w w' := by
  have f1 := flows_refl a
  have f2 := flows_join_left a b
  have f3 := flows_join_right a b
  have f4 := flows_meet_left a b
  have f5 := flows_meet_right a b
  have hj := or_lt' a b ha hb
  have hm := and_lt' a b ha
  have c1 : cnt (a ||| b) ≤ 64 := cntTo_le (a ||| b) 64
  have c2 : cnt (a &&& b) ≤ 64 := cntTo_le (a &&& b) 64
  have c3 : cnt a ≤ 64 := cntTo_le a 64
  have c4 : cnt b ≤ 64 := cntTo_le b 64
  have f9 := count_eq a b
  go_enter Tryd.func5, Tryd.ntmps5
  go_wp2_with (first | (go_at_call 8; refine (awake_any _).mono ?_; rintro e w1 ⟨rfl, hb1⟩) | (go_at_call 9; refine (flows_any _ _ (by assumption) (by assumption) _).mono ?_; rintro e w2 ⟨rfl, rfl⟩) | (go_at_call 11; refine (join_any _ _ (by assumption) (by assumption) _).mono ?_; rintro e w2 ⟨rfl, rfl⟩) | (go_at_call 13; refine (meet_any _ _ (by assumption) (by assumption) _).mono ?_; rintro e w2 ⟨rfl, rfl⟩) | (go_at_call 17; refine (count_any _ (by assumption) _).mono ?_; rintro e w2 ⟨rfl, rfl⟩))
  go_ret
  exact ⟨rfl, hb1⟩

set_option maxRecDepth 100000 in
set_option maxHeartbeats 1000000 in
theorem order_17 (a b c : Nat) (ha : a < 18446744073709551616) (hb : b < 18446744073709551616) (hc : c < 18446744073709551616) (w : World) (hab : flowsB a b = true) (hba : flowsB b a = false) (hac : flowsB a c = true) (hbc : flowsB b c = true) (hca : flowsB c a = true) (hcb : flowsB c b = true) (f6 : flowsB (a ||| b) c = true) (f7 : flowsB c (a &&& b) = true) :
    Calls Tryd.prog 5 #[.int .u64 a, .int .u64 b, .int .u64 c] w fun e w' => e = .returned (.bool true) ∧ Below w.heap.size w w' := by
  have f1 := flows_refl a
  have f2 := flows_join_left a b
  have f3 := flows_join_right a b
  have f4 := flows_meet_left a b
  have f5 := flows_meet_right a b
  have hj := or_lt' a b ha hb
  have hm := and_lt' a b ha
  have c1 : cnt (a ||| b) ≤ 64 := cntTo_le (a ||| b) 64
  have c2 : cnt (a &&& b) ≤ 64 := cntTo_le (a &&& b) 64
  have c3 : cnt a ≤ 64 := cntTo_le a 64
  have c4 : cnt b ≤ 64 := cntTo_le b 64
  have f9 := count_eq a b
  go_enter Tryd.func5, Tryd.ntmps5
  go_wp2_with (first | (go_at_call 8; refine (awake_any _).mono ?_; rintro e w1 ⟨rfl, hb1⟩) | (go_at_call 9; refine (flows_any _ _ (by assumption) (by assumption) _).mono ?_; rintro e w2 ⟨rfl, rfl⟩) | (go_at_call 11; refine (join_any _ _ (by assumption) (by assumption) _).mono ?_; rintro e w2 ⟨rfl, rfl⟩) | (go_at_call 13; refine (meet_any _ _ (by assumption) (by assumption) _).mono ?_; rintro e w2 ⟨rfl, rfl⟩) | (go_at_call 17; refine (count_any _ (by assumption) _).mono ?_; rintro e w2 ⟨rfl, rfl⟩))
  go_ret
  exact ⟨rfl, hb1⟩

set_option maxRecDepth 100000 in
set_option maxHeartbeats 1000000 in
theorem order_18 (a b c : Nat) (ha : a < 18446744073709551616) (hb : b < 18446744073709551616) (hc : c < 18446744073709551616) (w : World) (hab : flowsB a b = true) (hba : flowsB b a = true) (hac : flowsB a c = false) (hbc : flowsB b c = false) (hca : flowsB c a = false) (_hcb : flowsB c b = false) (hne : (((a : Int) != (b : Int)) : Bool) = false) (f6 : flowsB (a ||| b) c = false) (f7 : flowsB c (a &&& b) = false) :
    Calls Tryd.prog 5 #[.int .u64 a, .int .u64 b, .int .u64 c] w fun e w' => e = .returned (.bool true) ∧ Below w.heap.size w w' := by
  have f1 := flows_refl a
  have f2 := flows_join_left a b
  have f3 := flows_join_right a b
  have f4 := flows_meet_left a b
  have f5 := flows_meet_right a b
  have hj := or_lt' a b ha hb
  have hm := and_lt' a b ha
  have c1 : cnt (a ||| b) ≤ 64 := cntTo_le (a ||| b) 64
  have c2 : cnt (a &&& b) ≤ 64 := cntTo_le (a &&& b) 64
  have c3 : cnt a ≤ 64 := cntTo_le a 64
  have c4 : cnt b ≤ 64 := cntTo_le b 64
  have f9 := count_eq a b
  go_enter Tryd.func5, Tryd.ntmps5
  go_wp2_with (first | (go_at_call 8; refine (awake_any _).mono ?_; rintro e w1 ⟨rfl, hb1⟩) | (go_at_call 9; refine (flows_any _ _ (by assumption) (by assumption) _).mono ?_; rintro e w2 ⟨rfl, rfl⟩) | (go_at_call 11; refine (join_any _ _ (by assumption) (by assumption) _).mono ?_; rintro e w2 ⟨rfl, rfl⟩) | (go_at_call 13; refine (meet_any _ _ (by assumption) (by assumption) _).mono ?_; rintro e w2 ⟨rfl, rfl⟩) | (go_at_call 17; refine (count_any _ (by assumption) _).mono ?_; rintro e w2 ⟨rfl, rfl⟩))
  go_ret
  exact ⟨rfl, hb1⟩

set_option maxRecDepth 100000 in
set_option maxHeartbeats 1000000 in
theorem order_19 (a b c : Nat) (ha : a < 18446744073709551616) (hb : b < 18446744073709551616) (hc : c < 18446744073709551616) (w : World) (hab : flowsB a b = true) (hba : flowsB b a = true) (hac : flowsB a c = false) (hbc : flowsB b c = false) (hca : flowsB c a = true) (hcb : flowsB c b = true) (hne : (((a : Int) != (b : Int)) : Bool) = false) (f6 : flowsB (a ||| b) c = false) (f7 : flowsB c (a &&& b) = true) :
    Calls Tryd.prog 5 #[.int .u64 a, .int .u64 b, .int .u64 c] w fun e w' => e = .returned (.bool true) ∧ Below w.heap.size w w' := by
  have f1 := flows_refl a
  have f2 := flows_join_left a b
  have f3 := flows_join_right a b
  have f4 := flows_meet_left a b
  have f5 := flows_meet_right a b
  have hj := or_lt' a b ha hb
  have hm := and_lt' a b ha
  have c1 : cnt (a ||| b) ≤ 64 := cntTo_le (a ||| b) 64
  have c2 : cnt (a &&& b) ≤ 64 := cntTo_le (a &&& b) 64
  have c3 : cnt a ≤ 64 := cntTo_le a 64
  have c4 : cnt b ≤ 64 := cntTo_le b 64
  have f9 := count_eq a b
  go_enter Tryd.func5, Tryd.ntmps5
  go_wp2_with (first | (go_at_call 8; refine (awake_any _).mono ?_; rintro e w1 ⟨rfl, hb1⟩) | (go_at_call 9; refine (flows_any _ _ (by assumption) (by assumption) _).mono ?_; rintro e w2 ⟨rfl, rfl⟩) | (go_at_call 11; refine (join_any _ _ (by assumption) (by assumption) _).mono ?_; rintro e w2 ⟨rfl, rfl⟩) | (go_at_call 13; refine (meet_any _ _ (by assumption) (by assumption) _).mono ?_; rintro e w2 ⟨rfl, rfl⟩) | (go_at_call 17; refine (count_any _ (by assumption) _).mono ?_; rintro e w2 ⟨rfl, rfl⟩))
  go_ret
  exact ⟨rfl, hb1⟩

set_option maxRecDepth 100000 in
set_option maxHeartbeats 1000000 in
theorem order_20 (a b c : Nat) (ha : a < 18446744073709551616) (hb : b < 18446744073709551616) (hc : c < 18446744073709551616) (w : World) (hab : flowsB a b = true) (hba : flowsB b a = true) (hac : flowsB a c = true) (hbc : flowsB b c = true) (hca : flowsB c a = false) (_hcb : flowsB c b = false) (hne : (((a : Int) != (b : Int)) : Bool) = false) (f6 : flowsB (a ||| b) c = true) (f7 : flowsB c (a &&& b) = false) :
    Calls Tryd.prog 5 #[.int .u64 a, .int .u64 b, .int .u64 c] w fun e w' => e = .returned (.bool true) ∧ Below w.heap.size w w' := by
  have f1 := flows_refl a
  have f2 := flows_join_left a b
  have f3 := flows_join_right a b
  have f4 := flows_meet_left a b
  have f5 := flows_meet_right a b
  have hj := or_lt' a b ha hb
  have hm := and_lt' a b ha
  have c1 : cnt (a ||| b) ≤ 64 := cntTo_le (a ||| b) 64
  have c2 : cnt (a &&& b) ≤ 64 := cntTo_le (a &&& b) 64
  have c3 : cnt a ≤ 64 := cntTo_le a 64
  have c4 : cnt b ≤ 64 := cntTo_le b 64
  have f9 := count_eq a b
  go_enter Tryd.func5, Tryd.ntmps5
  go_wp2_with (first | (go_at_call 8; refine (awake_any _).mono ?_; rintro e w1 ⟨rfl, hb1⟩) | (go_at_call 9; refine (flows_any _ _ (by assumption) (by assumption) _).mono ?_; rintro e w2 ⟨rfl, rfl⟩) | (go_at_call 11; refine (join_any _ _ (by assumption) (by assumption) _).mono ?_; rintro e w2 ⟨rfl, rfl⟩) | (go_at_call 13; refine (meet_any _ _ (by assumption) (by assumption) _).mono ?_; rintro e w2 ⟨rfl, rfl⟩) | (go_at_call 17; refine (count_any _ (by assumption) _).mono ?_; rintro e w2 ⟨rfl, rfl⟩))
  go_ret
  exact ⟨rfl, hb1⟩

set_option maxRecDepth 100000 in
set_option maxHeartbeats 1000000 in
theorem order_21 (a b c : Nat) (ha : a < 18446744073709551616) (hb : b < 18446744073709551616) (hc : c < 18446744073709551616) (w : World) (hab : flowsB a b = true) (hba : flowsB b a = true) (hac : flowsB a c = true) (hbc : flowsB b c = true) (hca : flowsB c a = true) (hcb : flowsB c b = true) (hne : (((a : Int) != (b : Int)) : Bool) = false) (f6 : flowsB (a ||| b) c = true) (f7 : flowsB c (a &&& b) = true) :
    Calls Tryd.prog 5 #[.int .u64 a, .int .u64 b, .int .u64 c] w fun e w' => e = .returned (.bool true) ∧ Below w.heap.size w w' := by
  have f1 := flows_refl a
  have f2 := flows_join_left a b
  have f3 := flows_join_right a b
  have f4 := flows_meet_left a b
  have f5 := flows_meet_right a b
  have hj := or_lt' a b ha hb
  have hm := and_lt' a b ha
  have c1 : cnt (a ||| b) ≤ 64 := cntTo_le (a ||| b) 64
  have c2 : cnt (a &&& b) ≤ 64 := cntTo_le (a &&& b) 64
  have c3 : cnt a ≤ 64 := cntTo_le a 64
  have c4 : cnt b ≤ 64 := cntTo_le b 64
  have f9 := count_eq a b
  go_enter Tryd.func5, Tryd.ntmps5
  go_wp2_with (first | (go_at_call 8; refine (awake_any _).mono ?_; rintro e w1 ⟨rfl, hb1⟩) | (go_at_call 9; refine (flows_any _ _ (by assumption) (by assumption) _).mono ?_; rintro e w2 ⟨rfl, rfl⟩) | (go_at_call 11; refine (join_any _ _ (by assumption) (by assumption) _).mono ?_; rintro e w2 ⟨rfl, rfl⟩) | (go_at_call 13; refine (meet_any _ _ (by assumption) (by assumption) _).mono ?_; rintro e w2 ⟨rfl, rfl⟩) | (go_at_call 17; refine (count_any _ (by assumption) _).mono ?_; rintro e w2 ⟨rfl, rfl⟩))
  go_ret
  exact ⟨rfl, hb1⟩

theorem order_walk (a b c : Nat) (ha : a < 18446744073709551616) (hb : b < 18446744073709551616) (hc : c < 18446744073709551616) (w : World) :
    Calls Tryd.prog 5 #[.int .u64 a, .int .u64 b, .int .u64 c] w fun e w' => e = .returned (.bool true) ∧ Below w.heap.size w w' := by
  cases hab : flowsB a b
  · cases hac : flowsB a c
    · cases hca : flowsB c a
      · exact order_0 a b c ha hb hc w hab hac hca (by rw [flows_join, hac]; rfl) (by rw [flows_meet, hca]; rfl)
      · cases hcb : flowsB c b
        · exact order_1 a b c ha hb hc w hab hac hca hcb (by rw [flows_join, hac]; rfl) (by rw [flows_meet, hca, hcb]; rfl)
        · exact order_2 a b c ha hb hc w hab hac hca hcb (by rw [flows_join, hac]; rfl) (by rw [flows_meet, hca, hcb]; rfl)
    · cases hbc : flowsB b c
      · cases hca : flowsB c a
        · exact order_3 a b c ha hb hc w hab hac hbc hca (by rw [flows_join, hac, hbc]; rfl) (by rw [flows_meet, hca]; rfl)
        · cases hcb : flowsB c b
          · exact order_4 a b c ha hb hc w hab hac hbc hca hcb (by rw [flows_join, hac, hbc]; rfl) (by rw [flows_meet, hca, hcb]; rfl)
          · exact order_5 a b c ha hb hc w hab hac hbc hca hcb (by rw [flows_join, hac, hbc]; rfl) (by rw [flows_meet, hca, hcb]; rfl)
      · cases hca : flowsB c a
        · exact order_6 a b c ha hb hc w hab hac hbc hca (by rw [flows_join, hac, hbc]; rfl) (by rw [flows_meet, hca]; rfl)
        · cases hcb : flowsB c b
          · exact order_7 a b c ha hb hc w hab hac hbc hca hcb (by rw [flows_join, hac, hbc]; rfl) (by rw [flows_meet, hca, hcb]; rfl)
          · exact order_8 a b c ha hb hc w hab hac hbc hca hcb (by rw [flows_join, hac, hbc]; rfl) (by rw [flows_meet, hca, hcb]; rfl)
  · cases hba : flowsB b a
    · cases hbc : flowsB b c
      · cases hac : flowsB a c
        · cases hca : flowsB c a
          · exact order_9 a b c ha hb hc w hab hba hac hbc hca (by rw [flows_join, hac, hbc]; rfl) (by rw [flows_meet, hca]; rfl)
          · cases hcb : flowsB c b
            · exact order_10 a b c ha hb hc w hab hba hac hbc hca hcb (by rw [flows_join, hac, hbc]; rfl) (by rw [flows_meet, hca, hcb]; rfl)
            · exact order_11 a b c ha hb hc w hab hba hac hbc hca hcb (by rw [flows_join, hac, hbc]; rfl) (by rw [flows_meet, hca, hcb]; rfl)
        · cases hca : flowsB c a
          · exact order_12 a b c ha hb hc w hab hba hac hbc hca (by rw [flows_join, hac, hbc]; rfl) (by rw [flows_meet, hca]; rfl)
          · cases hcb : flowsB c b
            · exact order_13 a b c ha hb hc w hab hba hac hbc hca hcb (by rw [flows_join, hac, hbc]; rfl) (by rw [flows_meet, hca, hcb]; rfl)
            · exact order_14 a b c ha hb hc w hab hba hac hbc hca hcb (by rw [flows_join, hac, hbc]; rfl) (by rw [flows_meet, hca, hcb]; rfl)
      · have hac := flows_trans a b c hab hbc
        cases hca : flowsB c a
        · exact order_15 a b c ha hb hc w hab hba hac hbc hca (by rw [flows_join, hac, hbc]; rfl) (by rw [flows_meet, hca]; rfl)
        · cases hcb : flowsB c b
          · exact order_16 a b c ha hb hc w hab hba hac hbc hca hcb (by rw [flows_join, hac, hbc]; rfl) (by rw [flows_meet, hca, hcb]; rfl)
          · exact order_17 a b c ha hb hc w hab hba hac hbc hca hcb (by rw [flows_join, hac, hbc]; rfl) (by rw [flows_meet, hca, hcb]; rfl)
    · have e := flows_anti a b hab hba
      cases hac : flowsB a c
      · have hbc : flowsB b c = false := by rw [← e]; exact hac
        cases hca : flowsB c a
        · have hcb : flowsB c b = false := by rw [← e]; exact hca
          exact order_18 a b c ha hb hc w hab hba hac hbc hca hcb (by rw [flows_anti a b hab hba]; simp) (by rw [flows_join, hac, hbc]; rfl) (by rw [flows_meet, hca, hcb]; rfl)
        · have hcb : flowsB c b = true := by rw [← e]; exact hca
          exact order_19 a b c ha hb hc w hab hba hac hbc hca hcb (by rw [flows_anti a b hab hba]; simp) (by rw [flows_join, hac, hbc]; rfl) (by rw [flows_meet, hca, hcb]; rfl)
      · have hbc : flowsB b c = true := by rw [← e]; exact hac
        cases hca : flowsB c a
        · have hcb : flowsB c b = false := by rw [← e]; exact hca
          exact order_20 a b c ha hb hc w hab hba hac hbc hca hcb (by rw [flows_anti a b hab hba]; simp) (by rw [flows_join, hac, hbc]; rfl) (by rw [flows_meet, hca, hcb]; rfl)
        · have hcb : flowsB c b = true := by rw [← e]; exact hca
          exact order_21 a b c ha hb hc w hab hba hac hbc hca hcb (by rw [flows_anti a b hab hba]; simp) (by rw [flows_join, hac, hbc]; rfl) (by rw [flows_meet, hca, hcb]; rfl)
end Go.Proofs.YtjjhfmiegoohlaaDoor
