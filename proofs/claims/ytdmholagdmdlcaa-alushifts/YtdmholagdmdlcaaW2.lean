/- The twelve functions, one contract each. -/
import Derived.Test.YtdmholagdmdlcaaW1
import Derived.Test.YtdmholagdmdlcaaM1
namespace Go.Proofs.Ytdmholagdmdlcaa
open Go.RowKit

theorem add_any (b c : Int) (w : World) :
    Calls Try.prog 17 #[.int .i64 b, .int .i64 c] w fun e w' => e = .returned (.int .i64 (iadd b c)) ∧ w' = w := by
  go_enter Try.func17, Try.ntmps17
  go_wp2
  go_ret
  exact ⟨rfl, rfl⟩

theorem sub_any (b c : Int) (w : World) :
    Calls Try.prog 18 #[.int .i64 b, .int .i64 c] w fun e w' => e = .returned (.int .i64 (isub b c)) ∧ w' = w := by
  go_enter Try.func18, Try.ntmps18
  go_wp2
  go_ret
  exact ⟨rfl, rfl⟩

theorem mul_any (b c : Int) (w : World) :
    Calls Try.prog 19 #[.int .i64 b, .int .i64 c] w fun e w' => e = .returned (.int .i64 (imul b c)) ∧ w' = w := by
  go_enter Try.func19, Try.ntmps19
  go_wp2
  go_ret
  exact ⟨rfl, rfl⟩

theorem and_any (b c : Int) (w : World) :
    Calls Try.prog 22 #[.int .i64 b, .int .i64 c] w fun e w' => e = .returned (.int .i64 (iand b c)) ∧ w' = w := by
  go_enter Try.func22, Try.ntmps22
  go_wp2
  go_ret
  exact ⟨rfl, rfl⟩

theorem or_any (b c : Int) (w : World) :
    Calls Try.prog 23 #[.int .i64 b, .int .i64 c] w fun e w' => e = .returned (.int .i64 (ior b c)) ∧ w' = w := by
  go_enter Try.func23, Try.ntmps23
  go_wp2
  go_ret
  exact ⟨rfl, rfl⟩

theorem xor_any (b c : Int) (w : World) :
    Calls Try.prog 24 #[.int .i64 b, .int .i64 c] w fun e w' => e = .returned (.int .i64 (ixor b c)) ∧ w' = w := by
  go_enter Try.func24, Try.ntmps24
  go_wp2
  go_ret
  exact ⟨rfl, rfl⟩

theorem div_any (b c : Int) (w : World) :
    Calls Try.prog 20 #[.int .i64 b, .int .i64 c] w fun e w' => e = .returned (.int .i64 (idiv b c)) ∧ w' = w := by
  by_cases h0 : c = 0
  · subst h0
    have e : idiv b 0 = 0 := by simp [idiv, wrap64]
    rw [e]
    go_enter Try.func20, Try.ntmps20
    go_wp2
    go_ret
    exact ⟨rfl, rfl⟩
  · have t : (c == 0) = false := by simp [h0]
    unfold idiv
    go_enter Try.func20, Try.ntmps20
    go_wp2
    go_ret
    exact ⟨rfl, rfl⟩

theorem rem_any (b c : Int) (w : World) :
    Calls Try.prog 21 #[.int .i64 b, .int .i64 c] w fun e w' => e = .returned (.int .i64 (irem b c)) ∧ w' = w := by
  unfold irem
  go_enter Try.func21, Try.ntmps21
  go_wp2_with (go_at_call 20; refine (div_any b c _).mono ?_; rintro e w' ⟨rfl, rfl⟩)
  go_ret
  exact ⟨rfl, rfl⟩

theorem shl_any (b c : Int) (w : World) :
    Calls Try.prog 25 #[.int .i64 b, .int .i64 c] w fun e w' => e = .returned (.int .i64 (ishl b c)) ∧ w' = w := by
  by_cases h : c < 0
  · have e : ishl b c = b := by simp [ishl, h]
    rw [e]
    go_enter Try.func25, Try.ntmps25
    go_wp2
    go_ret
    exact ⟨rfl, rfl⟩
  · have e : ishl b c = wrap64 (b * 2 ^ min c.toNat 64) := by simp [ishl, h]
    rw [e]
    have h' : 0 ≤ c := by omega
    clear e h
    go_enter Try.func25, Try.ntmps25
    go_wp2
    go_ret
    exact ⟨rfl, rfl⟩

theorem shr_any (b c : Int) (w : World) :
    Calls Try.prog 26 #[.int .i64 b, .int .i64 c] w fun e w' => e = .returned (.int .i64 (ishr b c)) ∧ w' = w := by
  by_cases h : c < 0
  · have e : ishr b c = b := by simp [ishr, h]
    rw [e]
    go_enter Try.func26, Try.ntmps26
    go_wp2
    go_ret
    exact ⟨rfl, rfl⟩
  · have e : ishr b c = b / 2 ^ min c.toNat 64 := by simp [ishr, h]
    rw [e]
    have h' : 0 ≤ c := by omega
    clear e h
    go_enter Try.func26, Try.ntmps26
    go_wp2
    go_ret
    exact ⟨rfl, rfl⟩

theorem number_any (x : Bool) (w : World) :
    Calls Try.prog 30 #[.bool x] w fun e w' => e = .returned (.int .i64 (if x then 1 else 0)) ∧ w' = w := by
  cases x
  all_goals
    go_enter Try.func30, Try.ntmps30
    go_wp2
    go_ret
    exact ⟨rfl, rfl⟩

theorem less_any (b c : Int) (w : World) :
    Calls Try.prog 27 #[.int .i64 b, .int .i64 c] w fun e w' => e = .returned (.int .i64 (iless b c)) ∧ w' = w := by
  unfold iless
  by_cases h : b < c
  · have h1 : decide (b < c) = true := by simp [h]
    rw [if_pos h]
    go_enter Try.func27, Try.ntmps27
    go_wp2_with (go_at_call 30; refine (number_any true _).mono ?_; rintro e w' ⟨rfl, rfl⟩)
    go_ret
    exact ⟨rfl, rfl⟩
  · have h1 : decide (b < c) = false := by simp; omega
    rw [if_neg h]
    go_enter Try.func27, Try.ntmps27
    go_wp2_with (go_at_call 30; refine (number_any false _).mono ?_; rintro e w' ⟨rfl, rfl⟩)
    go_ret
    exact ⟨rfl, rfl⟩

theorem equal_any (b c : Int) (w : World) :
    Calls Try.prog 28 #[.int .i64 b, .int .i64 c] w fun e w' => e = .returned (.int .i64 (iequal b c)) ∧ w' = w := by
  unfold iequal
  by_cases h : b = c
  · have h1 : (b == c) = true := by simp [h]
    rw [if_pos h]
    clear h
    go_enter Try.func28, Try.ntmps28
    go_wp2_with (go_at_call 30; refine (number_any true _).mono ?_; rintro e w' ⟨rfl, rfl⟩)
    go_ret
    exact ⟨rfl, rfl⟩
  · have h1 : (b == c) = false := by simp [h]
    rw [if_neg h]
    go_enter Try.func28, Try.ntmps28
    go_wp2_with (go_at_call 30; refine (number_any false _).mono ?_; rintro e w' ⟨rfl, rfl⟩)
    go_ret
    exact ⟨rfl, rfl⟩
end Go.Proofs.Ytdmholagdmdlcaa
