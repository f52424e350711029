/- The calls whose answers the document fixes. -/
import Derived.Test.YtadlppllbebkdaaGreatDoorW10
namespace Go.Proofs.YtadlppllbebkdaaGreatDoor
open Go.RowKit

set_option maxRecDepth 100000 in
set_option maxHeartbeats 1000000 in
theorem parse_a (w : World) (T : Tabs w) : Calls Tryz.prog 14 #[.string ⟨#[49, 46, 53, 101, 48]⟩] w fun e w' => e = .returned (.tuple #[.int .i64 4609434218613702656, .int .i64 0]) ∧ Below w.heap.size w w' := by
  have hG := guess_a w T
  have hP := fun W (B : Below w.heap.size w W) => print_a W (T.kept B)
  clear T
  go_enter Tryz.func14, Tryz.ntmps14
  go_wp2_with fail
  refine hG.mono ?_
  rintro e w1 ⟨rfl, b1⟩
  have hP1 := hP w1 b1
  go_wp2_with (go_at_call 12; refine hP1.mono ?_; rintro e w2 ⟨rfl, b2⟩)
  go_ret2
  exact ⟨rfl, b1.trans (b2.mono b1.size)⟩

set_option maxRecDepth 100000 in
set_option maxHeartbeats 1000000 in
theorem parse_b (w : World) (T : Tabs w) : Calls Tryz.prog 14 #[.string ⟨#[49, 46, 53, 48, 101, 48]⟩] w fun e w' => e = .returned (.tuple #[.int .i64 0, .int .i64 4]) ∧ Below w.heap.size w w' := by
  have hG := guess_b w T
  have hP := fun W (B : Below w.heap.size w W) => print_a W (T.kept B)
  clear T
  go_enter Tryz.func14, Tryz.ntmps14
  go_wp2_with fail
  refine hG.mono ?_
  rintro e w1 ⟨rfl, b1⟩
  have hP1 := hP w1 b1
  go_wp2_with (go_at_call 12; refine hP1.mono ?_; rintro e w2 ⟨rfl, b2⟩)
  go_ret2
  exact ⟨rfl, b1.trans (b2.mono b1.size)⟩

set_option maxRecDepth 100000 in
set_option maxHeartbeats 2000000 in
theorem fixed_any (w : World) (T : Tabs w) : Calls Tryz.prog 9 #[] w fun e w' => e = .returned (.bool true) ∧ Below w.heap.size w w' := by
  have h1 := do_fadd 4607182418800017408 4607182418800017408 w
  have e1 : wrap64 (fadd (wd 4607182418800017408) (wd 4607182418800017408) : Nat) = 4611686018427387904 := by kernel_rfl
  rw [e1] at h1
  have h2 := do_fdiv 0 0
  have e2 : wrap64 (fdiv (wd 0) (wd 0) : Nat) = 9221120237041090560 := by kernel_rfl
  rw [e2] at h2
  have h3 := fun W => do_none 3 1 1 W (by omega)
  have hA := fun W (B : Below w.heap.size w W) => parse_a W (T.kept B)
  have hB := fun W (B : Below w.heap.size w W) => parse_b W (T.kept B)
  have hP := fun W (B : Below w.heap.size w W) => print_a W (T.kept B)
  clear e1 e2 T
  go_enter Tryz.func9, Tryz.ntmps9
  go_wp2_with fail
  refine h1.mono ?_
  rintro e w1 ⟨rfl, b1⟩
  go_wp2_with fail
  refine (h2 _).mono ?_
  rintro e w2 ⟨rfl, b2⟩
  replace b1 := b1.trans (b2.mono b1.size); clear b2
  go_wp2_with fail
  refine (h3 _).mono ?_
  rintro e w3 ⟨rfl, b2⟩
  replace b1 := b1.trans (b2.mono b1.size); clear b2
  go_wp2_with fail
  refine (hA _ b1).mono ?_
  rintro e w4 ⟨rfl, b2⟩
  replace b1 := b1.trans (b2.mono b1.size); clear b2
  go_wp2_with fail
  refine (hB _ b1).mono ?_
  rintro e w5 ⟨rfl, b2⟩
  replace b1 := b1.trans (b2.mono b1.size); clear b2
  have hP1 := hP w5 b1
  go_wp2_with (go_at_call 12; refine hP1.mono ?_; rintro e w6 ⟨rfl, b2⟩)
  go_ret
  exact ⟨rfl, b1.trans (b2.mono b1.size)⟩

set_option maxRecDepth 100000 in
theorem fltNames_walk (w : World) (T : Tabs w) : Calls Tryz.prog 3 #[] w fun e w' => e = .returned (.bool true) ∧ Below w.heap.size w w' := by
  have h9 := fixed_any w T
  go_enter Tryz.func3, Tryz.ntmps3
  go_wp2_with (go_at_call 9; refine h9.mono ?_; rintro e w6 ⟨rfl, b2⟩)
  go_ret
  exact ⟨rfl, b2⟩
end Go.Proofs.YtadlppllbebkdaaGreatDoor
