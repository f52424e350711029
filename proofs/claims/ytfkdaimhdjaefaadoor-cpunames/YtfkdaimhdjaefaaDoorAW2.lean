/- The twelve functions, one contract each. -/
import Derived.Test.YtfkdaimhdjaefaaDoorAW1
import Derived.Test.YtfkdaimhdjaefaaDoorAM1
namespace Go.Proofs.YtfkdaimhdjaefaaDoor.Alu
open Go.RowKit

theorem add_any (b c : Int) (w : World) :
    Calls Tryd.prog 54 #[.int .i64 b, .int .i64 c] w fun e w' => e = .returned (.int .i64 (iadd b c)) ∧ w' = w := by
  go_enter Tryd.func54, Tryd.ntmps54
  go_wp2
  go_ret
  exact ⟨rfl, rfl⟩

theorem sub_any (b c : Int) (w : World) :
    Calls Tryd.prog 55 #[.int .i64 b, .int .i64 c] w fun e w' => e = .returned (.int .i64 (isub b c)) ∧ w' = w := by
  go_enter Tryd.func55, Tryd.ntmps55
  go_wp2
  go_ret
  exact ⟨rfl, rfl⟩

theorem mul_any (b c : Int) (w : World) :
    Calls Tryd.prog 56 #[.int .i64 b, .int .i64 c] w fun e w' => e = .returned (.int .i64 (imul b c)) ∧ w' = w := by
  go_enter Tryd.func56, Tryd.ntmps56
  go_wp2
  go_ret
  exact ⟨rfl, rfl⟩

theorem and_any (b c : Int) (w : World) :
    Calls Tryd.prog 59 #[.int .i64 b, .int .i64 c] w fun e w' => e = .returned (.int .i64 (iand b c)) ∧ w' = w := by
  go_enter Tryd.func59, Tryd.ntmps59
  go_wp2
  go_ret
  exact ⟨rfl, rfl⟩

theorem or_any (b c : Int) (w : World) :
    Calls Tryd.prog 60 #[.int .i64 b, .int .i64 c] w fun e w' => e = .returned (.int .i64 (ior b c)) ∧ w' = w := by
  go_enter Tryd.func60, Tryd.ntmps60
  go_wp2
  go_ret
  exact ⟨rfl, rfl⟩

theorem xor_any (b c : Int) (w : World) :
    Calls Tryd.prog 61 #[.int .i64 b, .int .i64 c] w fun e w' => e = .returned (.int .i64 (ixor b c)) ∧ w' = w := by
  go_enter Tryd.func61, Tryd.ntmps61
  go_wp2
  go_ret
  exact ⟨rfl, rfl⟩

theorem div_any (b c : Int) (w : World) :
    Calls Tryd.prog 57 #[.int .i64 b, .int .i64 c] w fun e w' => e = .returned (.int .i64 (idiv b c)) ∧ w' = w := by
  by_cases h0 : c = 0
  · subst h0
    have e : idiv b 0 = 0 := by simp [idiv, wrap64]
    rw [e]
    go_enter Tryd.func57, Tryd.ntmps57
    go_wp2
    go_ret
    exact ⟨rfl, rfl⟩
  · have t : (c == 0) = false := by simp [h0]
    unfold idiv
    go_enter Tryd.func57, Tryd.ntmps57
    go_wp2
    go_ret
    exact ⟨rfl, rfl⟩

theorem rem_any (b c : Int) (w : World) :
    Calls Tryd.prog 58 #[.int .i64 b, .int .i64 c] w fun e w' => e = .returned (.int .i64 (irem b c)) ∧ w' = w := by
  unfold irem
  go_enter Tryd.func58, Tryd.ntmps58
  go_wp2_with (go_at_call 57; refine (div_any b c _).mono ?_; rintro e w' ⟨rfl, rfl⟩)
  go_ret
  exact ⟨rfl, rfl⟩

theorem shl_any (b c : Int) (w : World) :
    Calls Tryd.prog 62 #[.int .i64 b, .int .i64 c] w fun e w' => e = .returned (.int .i64 (ishl b c)) ∧ w' = w := by
  by_cases h : c < 0
  · have e : ishl b c = b := by simp [ishl, h]
    rw [e]
    go_enter Tryd.func62, Tryd.ntmps62
    go_wp2
    go_ret
    exact ⟨rfl, rfl⟩
  · have e : ishl b c = wrap64 (b * 2 ^ min c.toNat 64) := by simp [ishl, h]
    rw [e]
    have h' : 0 ≤ c := by omega
    clear e h
    go_enter Tryd.func62, Tryd.ntmps62
    go_wp2
    go_ret
    exact ⟨rfl, rfl⟩

theorem shr_any (b c : Int) (w : World) :
    Calls Tryd.prog 63 #[.int .i64 b, .int .i64 c] w fun e w' => e = .returned (.int .i64 (ishr b c)) ∧ w' = w := by
  by_cases h : c < 0
  · have e : ishr b c = b := by simp [ishr, h]
    rw [e]
    go_enter Tryd.func63, Tryd.ntmps63
    go_wp2
    go_ret
    exact ⟨rfl, rfl⟩
  · have e : ishr b c = b / 2 ^ min c.toNat 64 := by simp [ishr, h]
    rw [e]
    have h' : 0 ≤ c := by omega
    clear e h
    go_enter Tryd.func63, Tryd.ntmps63
    go_wp2
    go_ret
    exact ⟨rfl, rfl⟩

theorem number_any (x : Bool) (w : World) :
    Calls Tryd.prog 82 #[.bool x] w fun e w' => e = .returned (.int .i64 (if x then 1 else 0)) ∧ w' = w := by
  cases x
  all_goals
    go_enter Tryd.func82, Tryd.ntmps82
    go_wp2
    go_ret
    exact ⟨rfl, rfl⟩

theorem less_any (b c : Int) (w : World) :
    Calls Tryd.prog 64 #[.int .i64 b, .int .i64 c] w fun e w' => e = .returned (.int .i64 (iless b c)) ∧ w' = w := by
  unfold iless
  by_cases h : b < c
  · have h1 : decide (b < c) = true := by simp [h]
    rw [if_pos h]
    go_enter Tryd.func64, Tryd.ntmps64
    go_wp2_with (go_at_call 82; refine (number_any true _).mono ?_; rintro e w' ⟨rfl, rfl⟩)
    go_ret
    exact ⟨rfl, rfl⟩
  · have h1 : decide (b < c) = false := by simp; omega
    rw [if_neg h]
    go_enter Tryd.func64, Tryd.ntmps64
    go_wp2_with (go_at_call 82; refine (number_any false _).mono ?_; rintro e w' ⟨rfl, rfl⟩)
    go_ret
    exact ⟨rfl, rfl⟩

theorem equal_any (b c : Int) (w : World) :
    Calls Tryd.prog 65 #[.int .i64 b, .int .i64 c] w fun e w' => e = .returned (.int .i64 (iequal b c)) ∧ w' = w := by
  unfold iequal
  by_cases h : b = c
  · have h1 : (b == c) = true := by simp [h]
    rw [if_pos h]
    clear h
    go_enter Tryd.func65, Tryd.ntmps65
    go_wp2_with (go_at_call 82; refine (number_any true _).mono ?_; rintro e w' ⟨rfl, rfl⟩)
    go_ret
    exact ⟨rfl, rfl⟩
  · have h1 : (b == c) = false := by simp [h]
    rw [if_neg h]
    go_enter Tryd.func65, Tryd.ntmps65
    go_wp2_with (go_at_call 82; refine (number_any false _).mono ?_; rintro e w' ⟨rfl, rfl⟩)
    go_ret
    exact ⟨rfl, rfl⟩
end Go.Proofs.YtfkdaimhdjaefaaDoor.Alu
