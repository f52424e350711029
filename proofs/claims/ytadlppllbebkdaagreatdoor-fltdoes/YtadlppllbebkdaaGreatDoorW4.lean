/- Two texts, read by the library. -/
import Derived.Test.YtadlppllbebkdaaGreatDoorW3
import Derived.Handy
namespace Go.Proofs.YtadlppllbebkdaaGreatDoor
open Go.RowKit

set_option maxRecDepth 100000 in
theorem special_a (w : World) : Calls Tryz.prog 143 #[.string ⟨#[49, 46, 53, 101, 48]⟩] w fun e w' => e = .returned (.tuple #[.float .f64 0, .int .i64 0, .bool false]) ∧ w' = w := by
  go_enter Tryz.func143, Tryz.ntmps143
  go_wp2
  go_ret3
  exact ⟨rfl, rfl⟩

set_option maxRecDepth 100000 in
theorem special_b (w : World) : Calls Tryz.prog 143 #[.string ⟨#[49, 46, 53, 48, 101, 48]⟩] w fun e w' => e = .returned (.tuple #[.float .f64 0, .int .i64 0, .bool false]) ∧ w' = w := by
  go_enter Tryz.func143, Tryz.ntmps143
  go_wp2
  go_ret3
  exact ⟨rfl, rfl⟩

theorem lower_e (w : World) : Calls Tryz.prog 98 #[.int .u8 101] w fun e w' => e = .returned (.int .u8 101) ∧ w' = w := by
  go_enter Tryz.func98, Tryz.ntmps98
  go_wp2
  go_ret
  exact ⟨rfl, rfl⟩

set_option maxRecDepth 100000 in
set_option maxHeartbeats 4000000 in
theorem read_a (w : World) : Calls Tryz.prog 144 #[.string ⟨#[49, 46, 53, 101, 48]⟩] w fun e w' => e = .returned (.tuple #[.int .u64 15, .int .i64 (-1), .bool false, .bool false, .bool false, .int .i64 5, .bool true]) ∧ w' = w := by
  have h98 := lower_e
  go_enter Tryz.func144, Tryz.ntmps144
  go_wp2
  go_step3
  go_wp2_with (go_at_call 98; refine (h98 _).mono ?_; rintro e w' ⟨rfl, rfl⟩)
  go_step3
  go_wp2_with (go_at_call 98; refine (h98 _).mono ?_; rintro e w' ⟨rfl, rfl⟩)
  refine wp_loop_rounds 5 ?_
  rw [rounds_succ]
  go_wp2_with fail
  rw [rounds_succ]
  go_wp2_with fail
  rw [rounds_succ]
  go_wp2_with fail
  rw [rounds_succ]
  go_wp2_with (go_at_call 98; refine (h98 _).mono ?_; rintro e w' ⟨rfl, rfl⟩)
  refine wp_loop_rounds 3 ?_
  rw [rounds_succ]
  go_wp2_with fail
  rw [rounds_succ]
  go_wp2_with fail
  try rw [Exit.noGoto_ret]
  refine bodyPost_ret (v := .tuple #[.int .u64 15, .int .i64 (-1), .bool false, .bool false, .bool false, .int .i64 5, .bool true]) (by simp [results, Tryz.results144, go_sem]; exact ⟨rfl, rfl⟩) rfl ?_
  exact ⟨rfl, rfl⟩

set_option maxRecDepth 100000 in
set_option maxHeartbeats 4000000 in
theorem read_b (w : World) : Calls Tryz.prog 144 #[.string ⟨#[49, 46, 53, 48, 101, 48]⟩] w fun e w' => e = .returned (.tuple #[.int .u64 150, .int .i64 (-2), .bool false, .bool false, .bool false, .int .i64 6, .bool true]) ∧ w' = w := by
  have h98 := lower_e
  go_enter Tryz.func144, Tryz.ntmps144
  go_wp2
  go_step3
  go_wp2_with (go_at_call 98; refine (h98 _).mono ?_; rintro e w' ⟨rfl, rfl⟩)
  go_step3
  go_wp2_with (go_at_call 98; refine (h98 _).mono ?_; rintro e w' ⟨rfl, rfl⟩)
  refine wp_loop_rounds 6 ?_
  rw [rounds_succ]
  go_wp2_with fail
  rw [rounds_succ]
  go_wp2_with fail
  rw [rounds_succ]
  go_wp2_with fail
  rw [rounds_succ]
  go_wp2_with fail
  rw [rounds_succ]
  go_wp2_with (go_at_call 98; refine (h98 _).mono ?_; rintro e w' ⟨rfl, rfl⟩)
  refine wp_loop_rounds 3 ?_
  rw [rounds_succ]
  go_wp2_with fail
  rw [rounds_succ]
  go_wp2_with fail
  try rw [Exit.noGoto_ret]
  refine bodyPost_ret (v := .tuple #[.int .u64 150, .int .i64 (-2), .bool false, .bool false, .bool false, .int .i64 6, .bool true]) (by simp [results, Tryz.results144, go_sem]; exact ⟨rfl, rfl⟩) rfl ?_
  exact ⟨rfl, rfl⟩

end Go.Proofs.YtadlppllbebkdaaGreatDoor
