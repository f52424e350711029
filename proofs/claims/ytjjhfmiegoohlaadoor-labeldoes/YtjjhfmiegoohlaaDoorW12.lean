/- LabelDoes: the walk. -/
import Derived.Test.YtjjhfmiegoohlaaDoorW10
import Derived.Test.YtjjhfmiegoohlaaDoorW11
namespace Go.Proofs.YtjjhfmiegoohlaaDoor
open Go.RowKit

set_option maxRecDepth 100000 in
set_option maxHeartbeats 2000000 in
theorem does_walk (a b : Nat) (n : Int) (ha : a < 18446744073709551616) (hb : b < 18446744073709551616) (_hn : -9223372036854775808 ≤ n ∧ n ≤ 9223372036854775807) (w : World) :
    Calls Tryd.prog 4 #[.int .u64 a, .int .u64 b, .int .i64 n] w fun e w' => e = .returned (.bool true) ∧ Below w.heap.size w w' := by
  go_enter Tryd.func4, Tryd.ntmps4
  go_wp2_with fail
  refine (awake_any _).mono ?_
  rintro e w1 ⟨rfl, hb1⟩
  go_wp2_with (first | (go_at_call 9; refine (flows_any _ _ ha hb _).mono ?_; rintro e w2 ⟨rfl, rfl⟩) | (go_at_call 10; refine (rflows_any _ _ ha hb _).mono ?_; rintro e w2 ⟨rfl, rfl⟩) | (go_at_call 11; refine (join_any _ _ ha hb _).mono ?_; rintro e w2 ⟨rfl, rfl⟩) | (go_at_call 12; refine (rjoin_is _ _ ha hb _).mono ?_; rintro e w3 ⟨rfl, hb3⟩) | (go_at_call 13; refine (meet_any _ _ ha hb _).mono ?_; rintro e w4 ⟨rfl, rfl⟩) | (go_at_call 14; refine (rmeet_is _ _ ha hb _).mono ?_; rintro e w5 ⟨rfl, hb5⟩))
  have hbx : Below w.heap.size w w5 := (hb1.trans (hb3.mono (by exact hb1.size))).trans (hb5.mono (by exact Nat.le_trans hb1.size hb3.size))
  clear hb1 hb3 hb5
  go_loop [7] (fun i => ∃ k : Nat, k ≤ 66 ∧ i = .int .i64 ((k : Int) - 1)) (fun i => (66 - (intOf i + 1)).toNat)
  case atStart => exact ⟨0, by omega, rfl⟩
  case round =>
    obtain ⟨k, hk, rfl⟩ := hrel
    by_cases hlt : k < 66
    · go_wp2_with (first | (go_at_call 15; refine (has_any a _ ha _).mono ?_; rintro e w2 ⟨rfl, rfl⟩) | (go_at_call 16; refine (rhas_any a _ ha _).mono ?_; rintro e w2 ⟨rfl, rfl⟩))
      go_round
      case rel => exact ⟨k + 1, by omega, by go_num⟩
      case measure => simp [intOf]; omega
    · obtain rfl : k = 66 := by omega
      go_wp2_with (first | (go_at_call 15; refine (has_any a _ ha _).mono ?_; rintro e w2 ⟨rfl, rfl⟩) | (go_at_call 16; refine (rhas_any a _ ha _).mono ?_; rintro e w2 ⟨rfl, rfl⟩) | (go_at_call 17; refine (count_any a ha _).mono ?_; rintro e w2 ⟨rfl, rfl⟩) | (go_at_call 18; refine (rcount_any a ha _).mono ?_; rintro e w2 ⟨rfl, rfl⟩) | (go_at_call 19; refine (print_any a ha _).mono ?_; rintro e w6 ⟨rfl, hb6⟩) | (go_at_call 20; refine (rprint_any a ha _).mono ?_; rintro e w7 ⟨rfl, rfl⟩))
      go_ret
      exact ⟨rfl, hbx.trans (hb6.mono hbx.size)⟩
end Go.Proofs.YtjjhfmiegoohlaaDoor
