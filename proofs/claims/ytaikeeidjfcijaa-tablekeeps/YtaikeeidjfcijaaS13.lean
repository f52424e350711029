/- slices.Sort at labels. -/
import Derived.Test.YtaikeeidjfcijaaS12
namespace Go.Proofs.Ytaikeeidjfcijaa
open Go.RowKit Go.Sort

set_option maxRecDepth 100000 in
set_option maxHeartbeats 2000000 in
theorem sort_any (g n cap : Nat) (d : Array Nat) (w : World) (hR : Row w g n cap d) (hn : n ≤ 4000000) :
    Calls Try.prog 31 #[.slice (some ⟨g, 0, none⟩) n cap] w fun e w' => e = .returned (.tuple #[]) ∧ ∃ d', PermIn 0 n d d' ∧ SortedIn ltN 0 n d' ∧ Now w g n cap d' w' := by
  go_enter Try.func31, Try.ntmps31
  go_wp2_with fail
  refine (len_any64 n (by omega) w).mono ?_
  rintro e w1 ⟨L, rfl, hL, _, rfl⟩
  go_wp2_with fail
  refine (pdq_any n g n cap 0 n L d w1 rfl hR (Nat.zero_le _) (Nat.le_refl _) hn (by omega) (.inl rfl)).mono ?_
  rintro e w2 ⟨rfl, h⟩
  go_wp2
  go_end0
  exact ⟨rfl, h⟩

set_option maxRecDepth 100000 in
set_option maxHeartbeats 2000000 in
theorem insertion_nil (w : World) : Calls Try.prog 39 #[.slice none 0 0, .int .i64 0, .int .i64 0] w fun e w' => e = .returned (.tuple #[]) ∧ w' = w := by
  go_enter Try.func39, Try.ntmps39
  go_wp2
  refine wp_loop_rounds 1 ?_
  rw [rounds_succ]
  go_wp2
  go_end0
  exact ⟨rfl, rfl⟩

set_option maxRecDepth 100000 in
set_option maxHeartbeats 2000000 in
theorem pdq_nil (L : Nat) (w : World) : Calls Try.prog 36 #[.slice none 0 0, .int .i64 0, .int .i64 0, .int .i64 L] w fun e w' => e = .returned (.tuple #[]) ∧ w' = w := by
  go_enter Try.func36, Try.ntmps36
  go_wp2
  refine wp_loop_rounds 1 ?_
  rw [rounds_succ]
  go_wp2_with (first | (go_at_call 39; refine (insertion_nil _).mono ?_; rintro e w1 ⟨rfl, rfl⟩))
  refine bodyPost_ret (results_none rfl _ _ _) rfl ?_
  exact ⟨rfl, rfl⟩

set_option maxRecDepth 100000 in
set_option maxHeartbeats 2000000 in
theorem sort_nil (w : World) : Calls Try.prog 31 #[.slice none 0 0] w fun e w' => e = .returned (.tuple #[]) ∧ w' = w := by
  go_enter Try.func31, Try.ntmps31
  go_wp2_with fail
  refine (len_any64 0 (by omega) w).mono ?_
  rintro e w1 ⟨L, rfl, hL, _, rfl⟩
  go_wp2_with fail
  refine (pdq_nil L w1).mono ?_
  rintro e w2 ⟨rfl, rfl⟩
  go_wp2
  go_end0
  exact ⟨rfl, rfl⟩
end Go.Proofs.Ytaikeeidjfcijaa
