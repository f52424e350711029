/- The next power of two, the numbers by chance, the breaking of patterns. -/
import Derived.Test.YtaikeeidjfcijaaS5
namespace Go.Proofs.Ytaikeeidjfcijaa
open Go.RowKit Go.Sort

/-- What is in the range of a uint64 stays there. -/
theorem xor_in (x : Nat) (z : Int) (hx : x < 18446744073709551616) (h0 : 0 ≤ z) (h1 : z < 18446744073709551616) : ∃ y : Nat, y < 18446744073709551616 ∧ bits .xor .u64 (x : Int) z = (y : Int) := by
  obtain ⟨k, rfl⟩ := Int.eq_ofNat_of_zero_le h0
  refine ⟨x ^^^ k, ?_, u64_xor_nat x k hx (by omega)⟩
  exact Nat.xor_lt_two_pow (n := 64) hx (by omega)
theorem xor_wrap (x : Nat) (z : Int) (hx : x < 18446744073709551616) : ∃ y : Nat, y < 18446744073709551616 ∧ bits .xor .u64 (x : Int) (IntKind.u64.wrap z) = (y : Int) := by
  refine xor_in x _ hx ?_ ?_
  · rw [IntKind.wrap_u64]; omega
  · rw [IntKind.wrap_u64]; omega

set_option maxRecDepth 100000 in
set_option maxHeartbeats 1000000 in
theorem nextPow_any (n : Nat) (hn : n ≤ 4000000) (h1 : 1 ≤ n) (w : World) :
    Calls Try.prog 51 #[.int .i64 n] w fun e w' => ∃ m : Nat, e = .returned (.int .u64 m) ∧ 1 ≤ m ∧ m ≤ 2 * n ∧ w' = w := by
  go_enter Try.func51, Try.ntmps51
  go_wp2_with (first | (go_at_call 37; refine (len_any64 n (by omega) _).mono ?_; rintro e w1 ⟨L, rfl, hL, h2, rfl⟩))
  go_ret
  have hp : 2 ^ L ≤ 2 * n := h2 h1
  refine ⟨onlyN L, ret_int ?_, Nat.two_pow_pos L, hp, rfl⟩
  rw [IntKind.wrap_u64]
  have e : (2 : Int) ^ L = ((onlyN L : Nat) : Int) := by unfold onlyN; simp
  have hp' : onlyN L ≤ 2 * n := hp
  rw [e]
  exact Int.emod_eq_of_lt (by omega) (by omega)

/-- The number by chance, in the block s. -/
def Rnd (w : World) (s x : Nat) : Prop := w.heap[s]? = some (.cells #[.int .u64 (x : Nat)] 71 (0, 0))

set_option maxRecDepth 100000 in
set_option maxHeartbeats 2000000 in
theorem next_any (s x B : Nat) (w : World) (hs : B ≤ s) (hx : x < 18446744073709551616) (hr : Rnd w s x) :
    Calls Try.prog 52 #[.pointer (some ⟨s, 0, none⟩)] w fun e w' => ∃ y : Nat, e = .returned (.int .u64 y) ∧ y < 18446744073709551616 ∧ Rnd w' s y ∧ Go.RowKit.Below B w w' := by
  have HR : Hid (Rnd w s x) := hr
  have cs : w.cell? ⟨s, 0, none⟩ = some (.int .u64 (x : Nat)) := cell_of_one hr
  have fs : w.frozen? ⟨s, 0, none⟩ = false := free_of_one hr
  clear hr
  go_enter Try.func52, Try.ntmps52
  go_wp2_with fail
  go_region
  obtain ⟨y1, hy1, e1⟩ := xor_wrap x ((x : Int) * 8192) hx
  rw [e1]
  obtain ⟨w1, hw1⟩ : ∃ W, Hid (W = (w.setCell ⟨s, 0, none⟩ (.int .u64 (y1 : Nat))).drew) := ⟨_, rfl⟩
  rw [← hw1.out]
  have HR1 : Hid (Rnd w1 s y1) := by rw [hw1.out]; exact one_setCell (w := w) HR.out
  have hb1 : Go.RowKit.Below B w w1 := by rw [hw1.out]; exact ((Go.RowKit.Below.refl _ _).setCell hs _).drew
  have cs1 : w1.cell? ⟨s, 0, none⟩ = some (.int .u64 (y1 : Nat)) := cell_of_one HR1.out
  have fs1 : w1.frozen? ⟨s, 0, none⟩ = false := free_of_one HR1.out
  clear e1 cs fs
  go_wp2_with fail
  go_region
  obtain ⟨y2, hy2, e2⟩ := xor_in y1 ((y1 : Int) / 128) hy1 (by omega) (by omega)
  rw [e2]
  obtain ⟨w2, hw2⟩ : ∃ W, Hid (W = (w1.setCell ⟨s, 0, none⟩ (.int .u64 (y2 : Nat))).drew) := ⟨_, rfl⟩
  rw [← hw2.out]
  have HR2 : Hid (Rnd w2 s y2) := by rw [hw2.out]; exact one_setCell (w := w1) HR1.out
  have hb2 : Go.RowKit.Below B w1 w2 := by rw [hw2.out]; exact ((Go.RowKit.Below.refl _ _).setCell hs _).drew
  have cs2 : w2.cell? ⟨s, 0, none⟩ = some (.int .u64 (y2 : Nat)) := cell_of_one HR2.out
  have fs2 : w2.frozen? ⟨s, 0, none⟩ = false := free_of_one HR2.out
  clear e2 cs1 fs1
  go_wp2_with fail
  go_region
  obtain ⟨y3, hy3, e3⟩ := xor_wrap y2 ((y2 : Int) * 131072) hy2
  rw [e3]
  obtain ⟨w3, hw3⟩ : ∃ W, Hid (W = (w2.setCell ⟨s, 0, none⟩ (.int .u64 (y3 : Nat))).drew) := ⟨_, rfl⟩
  rw [← hw3.out]
  have HR3 : Hid (Rnd w3 s y3) := by rw [hw3.out]; exact one_setCell (w := w2) HR2.out
  have hb3 : Go.RowKit.Below B w2 w3 := by rw [hw3.out]; exact ((Go.RowKit.Below.refl _ _).setCell hs _).drew
  have cs3 : w3.cell? ⟨s, 0, none⟩ = some (.int .u64 (y3 : Nat)) := cell_of_one HR3.out
  have fs3 : w3.frozen? ⟨s, 0, none⟩ = false := free_of_one HR3.out
  clear e3 cs2 fs2
  go_wp2
  go_ret
  exact ⟨y3, rfl, hy3, HR3.out, (hb1.trans hb2).trans hb3⟩
end Go.Proofs.Ytaikeeidjfcijaa
