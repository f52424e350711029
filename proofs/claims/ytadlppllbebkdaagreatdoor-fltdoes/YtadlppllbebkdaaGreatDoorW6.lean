/- 1.5 printed: the shortest digits. -/
import Derived.Test.YtadlppllbebkdaaGreatDoorW5
namespace Go.Proofs.YtadlppllbebkdaaGreatDoor
open Go.RowKit

set_option maxRecDepth 100000 in
theorem mul_min (w : World) : Calls Tryz.prog 156 #[.int .u64 13835058055282162688, .int .u64 10240000000000000000] w fun e w' => e = .returned (.tuple #[.int .u64 7679999999999999431, .int .u64 10437377940734869504]) ∧ w' = w := by
  go_enter Tryz.func156, Tryz.ntmps156
  go_wp2
  go_ret2
  exact ⟨rfl, rfl⟩

set_option maxRecDepth 100000 in
theorem uscale_min (p : Nat) (w : World) (h0 : w.cell? ⟨p, 0, none⟩ = some (.int .u64 10240000000000000000)) (h2 : w.cell? ⟨p, 2, none⟩ = some (.int .i64 7)) :
    Calls Tryz.prog 130 #[.int .u64 13835058055282162688, .pointer (some ⟨p, 0, none⟩)] w fun e w' => e = .returned (.int .u64 59999999999999995) ∧ w' = w := by
  have hm := mul_min
  have hb : bits .and .i64 7 63 = 7 := by kernel_rfl
  go_enter Tryz.func130, Tryz.ntmps130
  go_wp2_with (go_at_call 156; refine (hm _).mono ?_; rintro e w' ⟨rfl, rfl⟩)
  go_ret
  exact ⟨rfl, rfl⟩

set_option maxRecDepth 100000 in
theorem mul_max (w : World) : Calls Tryz.prog 156 #[.int .u64 13835058055282164736, .int .u64 10240000000000000000] w fun e w' => e = .returned (.tuple #[.int .u64 7680000000000000568, .int .u64 8009366132974682112]) ∧ w' = w := by
  go_enter Tryz.func156, Tryz.ntmps156
  go_wp2
  go_ret2
  exact ⟨rfl, rfl⟩

set_option maxRecDepth 100000 in
theorem uscale_max (p : Nat) (w : World) (h0 : w.cell? ⟨p, 0, none⟩ = some (.int .u64 10240000000000000000)) (h2 : w.cell? ⟨p, 2, none⟩ = some (.int .i64 7)) :
    Calls Tryz.prog 130 #[.int .u64 13835058055282164736, .pointer (some ⟨p, 0, none⟩)] w fun e w' => e = .returned (.int .u64 60000000000000005) ∧ w' = w := by
  have hm := mul_max
  have hb : bits .and .i64 7 63 = 7 := by kernel_rfl
  go_enter Tryz.func130, Tryz.ntmps130
  go_wp2_with (go_at_call 156; refine (hm _).mono ?_; rintro e w' ⟨rfl, rfl⟩)
  go_ret
  exact ⟨rfl, rfl⟩

theorem log10_a (w : World) : Calls Tryz.prog 82 #[.int .i64 (-52)] w fun e w' => e = .returned (.int .i64 (-16)) ∧ w' = w := by
  go_enter Tryz.func82, Tryz.ntmps82
  go_wp2
  go_ret
  exact ⟨rfl, rfl⟩
theorem log2_a (w : World) : Calls Tryz.prog 129 #[.int .i64 16] w fun e w' => e = .returned (.int .i64 53) ∧ w' = w := by
  go_enter Tryz.func129, Tryz.ntmps129
  go_wp2
  go_ret
  exact ⟨rfl, rfl⟩

set_option maxRecDepth 100000 in
theorem prescale_a (p : Nat) (w : World) (T : Tabs w) (c0 : w.cell? ⟨p, 0, none⟩ = some (.int .u64 0)) (c1 : w.cell? ⟨p, 1, none⟩ = some (.int .u64 0)) (c2 : w.cell? ⟨p, 2, none⟩ = some (.int .i64 0))
    (f0 : w.frozen? ⟨p, 0, none⟩ = false) (f1 : w.frozen? ⟨p, 1, none⟩ = false) (f2 : w.frozen? ⟨p, 2, none⟩ = false) :
    Calls Tryz.prog 128 #[.pointer (some ⟨p, 0, none⟩), .int .i64 (-63), .int .i64 16, .int .i64 53] w fun e w' => e = .returned (.tuple #[]) ∧ w' = ((w.setCell ⟨p, 0, none⟩ (.int .u64 10240000000000000000)).setCell ⟨p, 1, none⟩ (.int .u64 0)).setCell ⟨p, 2, none⟩ (.int .i64 7) := by
  have h1 := T.hi
  have h2 := T.lo
  go_enter Tryz.func128, Tryz.ntmps128
  go_wp2
  refine bodyPost_end (results_none rfl _ _ _) rfl ?_
  exact ⟨rfl, rfl⟩

theorem nudge_any (u : Nat) (w : World) (h : u < 9223372036854775808) : Calls Tryz.prog 131 #[.int .u64 u, .int .i64 0] w fun e w' => e = .returned (.int .u64 u) ∧ w' = w := by
  go_enter Tryz.func131, Tryz.ntmps131
  go_wp2
  go_ret
  exact ⟨rfl, rfl⟩
theorem ceil_a (w : World) : Calls Tryz.prog 132 #[.int .u64 59999999999999995] w fun e w' => e = .returned (.int .u64 14999999999999999) ∧ w' = w := by
  go_enter Tryz.func132, Tryz.ntmps132
  go_wp2
  go_ret
  exact ⟨rfl, rfl⟩
theorem floor_a (w : World) : Calls Tryz.prog 133 #[.int .u64 60000000000000005] w fun e w' => e = .returned (.int .u64 15000000000000001) ∧ w' = w := by
  go_enter Tryz.func133, Tryz.ntmps133
  go_wp2
  go_ret
  exact ⟨rfl, rfl⟩

/-- The scaler, laid and filled. -/
theorem scaler_a (w : World) (T : Tabs w) : ∃ W : World, Below w.heap.size w W ∧ W.cell? ⟨w.heap.size, 0, none⟩ = some (.int .u64 10240000000000000000) ∧ W.cell? ⟨w.heap.size, 2, none⟩ = some (.int .i64 7) ∧
    Calls Tryz.prog 128 #[.pointer (some ⟨w.heap.size, 0, none⟩), .int .i64 (-63), .int .i64 16, .int .i64 53] (w.alloc (.cells #[.int .u64 0, .int .u64 0, .int .i64 0] 154)) fun e w' => e = .returned (.tuple #[]) ∧ w' = W := by
  have hb : Below w.heap.size w (w.alloc (.cells #[.int .u64 0, .int .u64 0, .int .i64 0] 154)) := (Below.refl _ w).alloc (Nat.le_refl _) _
  refine ⟨_, ?_, ?_, ?_, prescale_a w.heap.size _ (T.kept hb) (by simp [go_sem]) (by simp [go_sem]) (by simp [go_sem]) (by simp [go_sem]) (by simp [go_sem]) (by simp [go_sem])⟩
  · exact ((hb.setCell (Nat.le_refl _) _).setCell (Nat.le_refl _) _).setCell (Nat.le_refl _) _
  · simp [go_sem]
  · simp [go_sem]

set_option maxRecDepth 100000 in
set_option maxHeartbeats 1000000 in
theorem short_a (w : World) (T : Tabs w) : Calls Tryz.prog 118 #[.int .u64 13835058055282163712, .int .i64 (-63)] w fun e w' => e = .returned (.tuple #[.int .u64 1500000000000000, .int .i64 (-15)]) ∧ Below w.heap.size w w' := by
  have hA := log10_a
  have hB := log2_a
  have hb : bits .and .i64 6755399441055744 1 = 0 := by kernel_rfl
  go_enter Tryz.func118, Tryz.ntmps118
  go_wp2_with (first | (go_at_call 82; refine (hA _).mono ?_; rintro e w' ⟨rfl, rfl⟩) | (go_at_call 129; refine (hB _).mono ?_; rintro e w' ⟨rfl, rfl⟩))
  obtain ⟨W, hb, c0, c2, hP⟩ := scaler_a w' T
  refine hP.mono ?_
  rintro e W ⟨rfl, rfl⟩
  clear hP
  have u1 := uscale_min _ W c0 c2
  have u2 := uscale_max _ W c0 c2
  have n1 := nudge_any 59999999999999995 W (by omega)
  have n2 := nudge_any 60000000000000005 W (by omega)
  have d1 := ceil_a W
  have d2 := floor_a W
  go_wp2_with fail
  refine u1.mono ?_
  rintro e w1 ⟨rfl, rfl⟩
  go_wp2_with (first | (go_at_call 131; refine n1.mono ?_; rintro e w1 ⟨rfl, rfl⟩) | (go_at_call 132; refine d1.mono ?_; rintro e w1 ⟨rfl, rfl⟩))
  refine u2.mono ?_
  rintro e w1 ⟨rfl, rfl⟩
  go_wp2_with (first | (go_at_call 131; refine n2.mono ?_; rintro e w1 ⟨rfl, rfl⟩) | (go_at_call 133; refine d2.mono ?_; rintro e w1 ⟨rfl, rfl⟩))
  go_ret2
  exact ⟨rfl, hb⟩
end Go.Proofs.YtadlppllbebkdaaGreatDoor
