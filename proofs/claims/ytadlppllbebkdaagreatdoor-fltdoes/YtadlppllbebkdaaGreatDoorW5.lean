/- Two texts, read by the library: down to flt.guess. -/
import Derived.Test.YtadlppllbebkdaaGreatDoorW4
import Derived.BigQuiet
import Derived.Test.YtadlppllbebkdaaGreatDoorShelf
import Derived.WalkSmall
namespace Go.Proofs.YtadlppllbebkdaaGreatDoor
open Go.RowKit

/-- The library's variables that the road reads, at the places that matter here. -/
structure Tabs (w : World) : Prop where
  opt : w.cell? ⟨3, 0, none⟩ = some (.bool true)
  mant : w.cell? ⟨9, 0, none⟩ = some (.int .u64 52)
  pow : ∃ b o, w.cell? ⟨14, 0, none⟩ = some (.slice (some ⟨b, o, none⟩) 23 23) ∧ w.cell? ⟨b, o + 1, none⟩ = some (.float .f64 4621819117588971520) ∧ w.cell? ⟨b, o + 2, none⟩ = some (.float .f64 4636737291354636288)
  ten : Lib.TabIs Tryz.prog w "internal/strconv.uint64pow10" .u64 Lib.pow10Tab
  hi : w.cell? ⟨10, 728, none⟩ = some (.int .u64 10240000000000000000)
  lo : w.cell? ⟨10, 729, none⟩ = some (.int .u64 0)

theorem Tabs.kept {w w' : World} (h : Tabs w) (hb : Below w.heap.size w w') : Tabs w' := by
  have k : ∀ {a : Addr} {v : Value}, w.cell? a = some v → w'.cell? a = some v := fun hc => (hb.cell (World.block_lt_of_cell? w _ hc)).trans hc
  obtain ⟨b, o, p1, p2, p3⟩ := h.pow
  have h1 : 1 < w.heap.size := by
    have h3 : 3 < w.heap.size := World.block_lt_of_cell? w _ h.opt
    omega
  exact ⟨k h.opt, k h.mant, ⟨b, o, k p1, k p2, k p3⟩, (var?_below hb (show Tryz.prog.globalNamed "internal/strconv.uint64pow10" = some 1 by kernel_rfl) h1 h.ten), k h.hi, k h.lo⟩

theorem bool2u_false (w : World) : Calls Tryz.prog 152 #[.bool false] w fun e w' => e = .returned (.int .u64 0) ∧ w' = w := by
  go_enter Tryz.func152, Tryz.ntmps152
  go_wp2
  go_ret
  exact ⟨rfl, rfl⟩
theorem bool2u_true (w : World) : Calls Tryz.prog 152 #[.bool true] w fun e w' => e = .returned (.int .u64 1) ∧ w' = w := by
  go_enter Tryz.func152, Tryz.ntmps152
  go_wp2
  go_ret
  exact ⟨rfl, rfl⟩

set_option maxRecDepth 100000 in
theorem exact_a (w : World) (T : Tabs w) : Calls Tryz.prog 154 #[.int .u64 15, .int .i64 (-1), .bool false] w fun e w' => e = .returned (.tuple #[.float .f64 4609434218613702656, .bool true]) ∧ w' = w := by
  have hm := T.mant
  obtain ⟨b, o, h1, h2, h3⟩ := T.pow
  have hc : ∀ W : World, (convert 36 37 (.int .u64 15)).run Tryz.prog W = .ok (.float .f64 4624633867356078080) W := fun W => by
    rw [run_convert_int_float W 36 37 .u64 .f64 15 (by kernel_rfl) (by kernel_rfl)]
    rfl
  have hd := run_fdiv_some 4624633867356078080 4621819117588971520 4609434218613702656 (by decide +kernel)
  go_enter Tryz.func154, Tryz.ntmps154
  go_wp2
  go_ret2
  exact ⟨rfl, rfl⟩

set_option maxRecDepth 100000 in
theorem exact_b (w : World) (T : Tabs w) : Calls Tryz.prog 154 #[.int .u64 150, .int .i64 (-2), .bool false] w fun e w' => e = .returned (.tuple #[.float .f64 4609434218613702656, .bool true]) ∧ w' = w := by
  have hm := T.mant
  obtain ⟨b, o, h1, h2, h3⟩ := T.pow
  have hc : ∀ W : World, (convert 36 37 (.int .u64 150)).run Tryz.prog W = .ok (.float .f64 4639481672377565184) W := fun W => by
    rw [run_convert_int_float W 36 37 .u64 .f64 150 (by kernel_rfl) (by kernel_rfl)]
    rfl
  have hd := run_fdiv_some 4639481672377565184 4636737291354636288 4609434218613702656 (by decide +kernel)
  go_enter Tryz.func154, Tryz.ntmps154
  go_wp2
  go_ret2
  exact ⟨rfl, rfl⟩

set_option maxRecDepth 100000 in
set_option maxHeartbeats 1000000 in
theorem atof_a (w : World) (T : Tabs w) : Calls Tryz.prog 122 #[.string ⟨#[49, 46, 53, 101, 48]⟩] w fun e w' => e = .returned (.tuple #[.float .f64 4609434218613702656, .int .i64 5, .nilIface]) ∧ w' = w := by
  have ho := T.opt
  have hs := special_a
  have hr := read_a
  have hb := bool2u_false
  have he := exact_a w T
  clear T
  go_enter Tryz.func122, Tryz.ntmps122
  go_wp2_with (first | (go_at_call 143; refine (hs _).mono ?_; rintro e w' ⟨rfl, rfl⟩) | (go_at_call 144; refine (hr _).mono ?_; rintro e w' ⟨rfl, rfl⟩) | (go_at_call 152; refine (hb _).mono ?_; rintro e w' ⟨rfl, rfl⟩) | (go_at_call 154; refine he.mono ?_; rintro e w' ⟨rfl, rfl⟩))
  go_ret3
  exact ⟨rfl, rfl⟩

set_option maxRecDepth 100000 in
theorem pfloat_a (w : World) (T : Tabs w) : Calls Tryz.prog 60 #[.string ⟨#[49, 46, 53, 101, 48]⟩, .int .i64 64] w fun e w' => e = .returned (.tuple #[.float .f64 4609434218613702656, .nilIface]) ∧ w' = w := by
  have h1 : Calls Tryz.prog 100 #[.string ⟨#[49, 46, 53, 101, 48]⟩, .int .i64 64] w fun e w' => e = .returned (.tuple #[.float .f64 4609434218613702656, .int .i64 5, .nilIface]) ∧ w' = w := by
    have ha := atof_a w T
    go_enter Tryz.func100, Tryz.ntmps100
    go_wp2_with (go_at_call 122; refine ha.mono ?_; rintro e w' ⟨rfl, rfl⟩)
    go_ret3
    exact ⟨rfl, rfl⟩
  have h2 : Calls Tryz.prog 80 #[.string ⟨#[49, 46, 53, 101, 48]⟩, .int .i64 64] w fun e w' => e = .returned (.tuple #[.float .f64 4609434218613702656, .nilIface]) ∧ w' = w := by
    go_enter Tryz.func80, Tryz.ntmps80
    go_wp2_with (go_at_call 100; refine h1.mono ?_; rintro e w' ⟨rfl, rfl⟩)
    go_ret2
    exact ⟨rfl, rfl⟩
  clear h1
  go_enter Tryz.func60, Tryz.ntmps60
  go_wp2_with (go_at_call 80; refine h2.mono ?_; rintro e w' ⟨rfl, rfl⟩)
  go_ret2
  exact ⟨rfl, rfl⟩

set_option maxRecDepth 100000 in
theorem cutp_a (w : World) : Calls Tryz.prog 58 #[.string ⟨#[49, 46, 53, 101, 48]⟩, .string ⟨#[110, 97, 110, 58]⟩] w fun e w' => e = .returned (.tuple #[.string ⟨#[49, 46, 53, 101, 48]⟩, .bool false]) ∧ w' = w := by
  have hx : (((⟨#[49, 46, 53, 101, 48]⟩ : ByteArray).extract 0 4).toList == [110, 97, 110, 58]) = false := by kernel_rfl
  have h1 : ∀ w, Calls Tryz.prog 97 #[.string ⟨#[49, 46, 53, 101, 48]⟩, .string ⟨#[110, 97, 110, 58]⟩] w fun e w' => e = .returned (.bool false) ∧ w' = w := fun w => by
    go_enter Tryz.func97, Tryz.ntmps97
    go_wp2
    go_ret
    exact ⟨rfl, rfl⟩
  have h2 : ∀ w, Calls Tryz.prog 78 #[.string ⟨#[49, 46, 53, 101, 48]⟩, .string ⟨#[110, 97, 110, 58]⟩] w fun e w' => e = .returned (.tuple #[.string ⟨#[49, 46, 53, 101, 48]⟩, .bool false]) ∧ w' = w := fun w => by
    go_enter Tryz.func78, Tryz.ntmps78
    go_wp2_with (go_at_call 97; refine (h1 _).mono ?_; rintro e w' ⟨rfl, rfl⟩)
    go_ret2
    exact ⟨rfl, rfl⟩
  go_enter Tryz.func58, Tryz.ntmps58
  go_wp2_with (go_at_call 78; refine (h2 _).mono ?_; rintro e w' ⟨rfl, rfl⟩)
  go_ret2
  exact ⟨rfl, rfl⟩

set_option maxRecDepth 100000 in
theorem guess_a (w : World) (T : Tabs w) : Calls Tryz.prog 35 #[.string ⟨#[49, 46, 53, 101, 48]⟩] w fun e w' => e = .returned (.tuple #[.int .i64 4609434218613702656, .bool true]) ∧ Below w.heap.size w w' := by
  have h1 := cutp_a
  have h2 := pfloat_a w T
  have h3 := bitsOf_any 4609434218613702656
  have hw : wrap64 ((4609434218613702656 : Nat) : Int) = 4609434218613702656 := by kernel_rfl
  rw [hw] at h3
  go_enter Tryz.func35, Tryz.ntmps35
  go_wp2_with (first | (go_at_call 58; refine (h1 _).mono ?_; rintro e w' ⟨rfl, rfl⟩) | (go_at_call 60; refine h2.mono ?_; rintro e w' ⟨rfl, rfl⟩) | (go_at_call 40; refine (h3 _).mono ?_; rintro e w' ⟨rfl, rfl⟩))
  go_quiet (with_reducible exact Calls.quiet_of_same (h3 _))
  go_wp2
  go_ret2
  exact ⟨rfl, below_drewN (Below.refl _ _) _⟩

set_option maxRecDepth 100000 in
set_option maxHeartbeats 1000000 in
theorem atof_b (w : World) (T : Tabs w) : Calls Tryz.prog 122 #[.string ⟨#[49, 46, 53, 48, 101, 48]⟩] w fun e w' => e = .returned (.tuple #[.float .f64 4609434218613702656, .int .i64 6, .nilIface]) ∧ w' = w := by
  have ho := T.opt
  have hs := special_b
  have hr := read_b
  have hb := bool2u_false
  have he := exact_b w T
  clear T
  go_enter Tryz.func122, Tryz.ntmps122
  go_wp2_with (first | (go_at_call 143; refine (hs _).mono ?_; rintro e w' ⟨rfl, rfl⟩) | (go_at_call 144; refine (hr _).mono ?_; rintro e w' ⟨rfl, rfl⟩) | (go_at_call 152; refine (hb _).mono ?_; rintro e w' ⟨rfl, rfl⟩) | (go_at_call 154; refine he.mono ?_; rintro e w' ⟨rfl, rfl⟩))
  go_ret3
  exact ⟨rfl, rfl⟩

set_option maxRecDepth 100000 in
theorem pfloat_b (w : World) (T : Tabs w) : Calls Tryz.prog 60 #[.string ⟨#[49, 46, 53, 48, 101, 48]⟩, .int .i64 64] w fun e w' => e = .returned (.tuple #[.float .f64 4609434218613702656, .nilIface]) ∧ w' = w := by
  have h1 : Calls Tryz.prog 100 #[.string ⟨#[49, 46, 53, 48, 101, 48]⟩, .int .i64 64] w fun e w' => e = .returned (.tuple #[.float .f64 4609434218613702656, .int .i64 6, .nilIface]) ∧ w' = w := by
    have ha := atof_b w T
    go_enter Tryz.func100, Tryz.ntmps100
    go_wp2_with (go_at_call 122; refine ha.mono ?_; rintro e w' ⟨rfl, rfl⟩)
    go_ret3
    exact ⟨rfl, rfl⟩
  have h2 : Calls Tryz.prog 80 #[.string ⟨#[49, 46, 53, 48, 101, 48]⟩, .int .i64 64] w fun e w' => e = .returned (.tuple #[.float .f64 4609434218613702656, .nilIface]) ∧ w' = w := by
    go_enter Tryz.func80, Tryz.ntmps80
    go_wp2_with (go_at_call 100; refine h1.mono ?_; rintro e w' ⟨rfl, rfl⟩)
    go_ret2
    exact ⟨rfl, rfl⟩
  clear h1
  go_enter Tryz.func60, Tryz.ntmps60
  go_wp2_with (go_at_call 80; refine h2.mono ?_; rintro e w' ⟨rfl, rfl⟩)
  go_ret2
  exact ⟨rfl, rfl⟩

set_option maxRecDepth 100000 in
theorem cutp_b (w : World) : Calls Tryz.prog 58 #[.string ⟨#[49, 46, 53, 48, 101, 48]⟩, .string ⟨#[110, 97, 110, 58]⟩] w fun e w' => e = .returned (.tuple #[.string ⟨#[49, 46, 53, 48, 101, 48]⟩, .bool false]) ∧ w' = w := by
  have hx : (((⟨#[49, 46, 53, 48, 101, 48]⟩ : ByteArray).extract 0 4).toList == [110, 97, 110, 58]) = false := by kernel_rfl
  have h1 : ∀ w, Calls Tryz.prog 97 #[.string ⟨#[49, 46, 53, 48, 101, 48]⟩, .string ⟨#[110, 97, 110, 58]⟩] w fun e w' => e = .returned (.bool false) ∧ w' = w := fun w => by
    go_enter Tryz.func97, Tryz.ntmps97
    go_wp2
    go_ret
    exact ⟨rfl, rfl⟩
  have h2 : ∀ w, Calls Tryz.prog 78 #[.string ⟨#[49, 46, 53, 48, 101, 48]⟩, .string ⟨#[110, 97, 110, 58]⟩] w fun e w' => e = .returned (.tuple #[.string ⟨#[49, 46, 53, 48, 101, 48]⟩, .bool false]) ∧ w' = w := fun w => by
    go_enter Tryz.func78, Tryz.ntmps78
    go_wp2_with (go_at_call 97; refine (h1 _).mono ?_; rintro e w' ⟨rfl, rfl⟩)
    go_ret2
    exact ⟨rfl, rfl⟩
  go_enter Tryz.func58, Tryz.ntmps58
  go_wp2_with (go_at_call 78; refine (h2 _).mono ?_; rintro e w' ⟨rfl, rfl⟩)
  go_ret2
  exact ⟨rfl, rfl⟩

set_option maxRecDepth 100000 in
theorem guess_b (w : World) (T : Tabs w) : Calls Tryz.prog 35 #[.string ⟨#[49, 46, 53, 48, 101, 48]⟩] w fun e w' => e = .returned (.tuple #[.int .i64 4609434218613702656, .bool true]) ∧ Below w.heap.size w w' := by
  have h1 := cutp_b
  have h2 := pfloat_b w T
  have h3 := bitsOf_any 4609434218613702656
  have hw : wrap64 ((4609434218613702656 : Nat) : Int) = 4609434218613702656 := by kernel_rfl
  rw [hw] at h3
  go_enter Tryz.func35, Tryz.ntmps35
  go_wp2_with (first | (go_at_call 58; refine (h1 _).mono ?_; rintro e w' ⟨rfl, rfl⟩) | (go_at_call 60; refine h2.mono ?_; rintro e w' ⟨rfl, rfl⟩) | (go_at_call 40; refine (h3 _).mono ?_; rintro e w' ⟨rfl, rfl⟩))
  go_quiet (with_reducible exact Calls.quiet_of_same (h3 _))
  go_wp2
  go_ret2
  exact ⟨rfl, below_drewN (Below.refl _ _) _⟩
end Go.Proofs.YtadlppllbebkdaaGreatDoor
