/- awake: the answers that the document fixes. -/
import Derived.Test.YtjjhfmiegoohlaaDoorW5
import Derived.Test.YtjjhfmiegoohlaaDoorW6
namespace Go.Proofs.YtjjhfmiegoohlaaDoor
open Go.RowKit

theorem parse_c1 (w : World) : Calls Tryd.prog 21 #[.string ⟨#[123, 48, 44, 53, 125]⟩] w fun e w' => e = .returned (.tuple #[.int .u64 33, .int .i64 0, .int .i64 0]) ∧ ∃ n, w' = w.drewN n := by
  have h := parse_any ⟨#[123, 48, 44, 53, 125]⟩ (by decide) w
  have e : parseL (⟨#[123, 48, 44, 53, 125]⟩ : ByteArray).data.toList = (33, 0, 0) := by decide +kernel
  rw [e] at h
  exact h
theorem parse_c2 (w : World) : Calls Tryd.prog 21 #[.string ⟨#[123, 48, 125, 120]⟩] w fun e w' => e = .returned (.tuple #[.int .u64 0, .int .i64 6, .int .i64 3]) ∧ ∃ n, w' = w.drewN n := by
  have h := parse_any ⟨#[123, 48, 125, 120]⟩ (by decide) w
  have e : parseL (⟨#[123, 48, 125, 120]⟩ : ByteArray).data.toList = (0, 6, 3) := by decide +kernel
  rw [e] at h
  exact h
theorem print_c (w : World) : Calls Tryd.prog 19 #[.int .u64 33] w fun e w' => e = .returned (.string ⟨#[123, 48, 44, 53, 125]⟩) ∧ Below w.heap.size w w' := by
  have h := print_any 33 (by decide) w
  have e : (printL 33).toArray = #[123, 48, 44, 53, 125] := by decide +kernel
  rw [e] at h
  exact h
theorem flows_c1 (w : World) : Calls Tryd.prog 9 #[.int .u64 5, .int .u64 13] w fun e w' => e = .returned (.bool true) ∧ w' = w := flows_any 5 13 (by decide) (by decide) w
theorem flows_c2 (w : World) : Calls Tryd.prog 9 #[.int .u64 5, .int .u64 9] w fun e w' => e = .returned (.bool false) ∧ w' = w := flows_any 5 9 (by decide) (by decide) w
theorem join_c (w : World) : Calls Tryd.prog 11 #[.int .u64 5, .int .u64 9] w fun e w' => e = .returned (.int .u64 13) ∧ w' = w := join_any 5 9 (by decide) (by decide) w
theorem meet_c (w : World) : Calls Tryd.prog 13 #[.int .u64 5, .int .u64 9] w fun e w' => e = .returned (.int .u64 1) ∧ w' = w := meet_any 5 9 (by decide) (by decide) w
theorem count_c (w : World) : Calls Tryd.prog 17 #[.int .u64 13] w fun e w' => e = .returned (.int .i64 3) ∧ w' = w := by
  have h := count_any 13 (by decide) w
  have e : cnt 13 = 3 := by decide +kernel
  rw [e] at h
  exact h
theorem has_c (w : World) : Calls Tryd.prog 15 #[.int .u64 5, .int .i64 2] w fun e w' => e = .returned (.bool true) ∧ w' = w := has_any 5 2 (by decide) w

set_option maxRecDepth 100000 in
set_option maxHeartbeats 1000000 in
theorem awake_any (w : World) : Calls Tryd.prog 8 #[] w fun e w' => e = .returned (.bool true) ∧ Below w.heap.size w w' := by
  go_enter Tryd.func8, Tryd.ntmps8
  go_wp2_with fail
  refine (parse_c1 _).mono ?_
  rintro e w' ⟨rfl, n, rfl⟩
  go_wp2_with fail
  refine (parse_c2 _).mono ?_
  rintro e w' ⟨rfl, n2, rfl⟩
  go_wp2_with fail
  refine (print_c _).mono ?_
  rintro e w1 ⟨rfl, hb⟩
  go_wp2_with fail
  refine (flows_c1 _).mono ?_
  rintro e w2 ⟨rfl, rfl⟩
  go_wp2_with fail
  refine (flows_c2 _).mono ?_
  rintro e w2 ⟨rfl, rfl⟩
  go_wp2_with (first | (go_at_call 11; refine (join_c _).mono ?_; rintro e w2 ⟨rfl, rfl⟩) | (go_at_call 13; refine (meet_c _).mono ?_; rintro e w2 ⟨rfl, rfl⟩) | (go_at_call 17; refine (count_c _).mono ?_; rintro e w2 ⟨rfl, rfl⟩) | (go_at_call 15; refine (has_c _).mono ?_; rintro e w2 ⟨rfl, rfl⟩))
  go_ret
  refine ⟨rfl, ?_⟩
  simp at hb
  exact (below_drewN (Below.refl _ _) _).trans hb

theorem labelNames_walk (w : World) : Calls Tryd.prog 3 #[] w fun e w' => e = .returned (.bool true) ∧ Below w.heap.size w w' := by
  go_enter Tryd.func3, Tryd.ntmps3
  go_wp2_with (go_at_call 8; refine (awake_any _).mono ?_; rintro e w1 ⟨rfl, hb⟩)
  go_ret
  exact ⟨rfl, hb⟩
end Go.Proofs.YtjjhfmiegoohlaaDoor
