/- The number of bits, the next power of two, the numbers by chance. -/
import Derived.Test.YtaikeeidjfcijaaS4
namespace Go.Proofs.Ytaikeeidjfcijaa
open Go.RowKit Go.Sort

/-- The library's table of the bits of a byte. -/
def tabB : ByteArray := { data := #[0, 1, 2, 2, 3, 3, 3, 3, 4, 4, 4, 4, 4, 4, 4, 4, 5, 5, 5, 5, 5, 5, 5, 5, 5, 5, 5, 5, 5, 5, 5, 5, 6, 6, 6, 6, 6, 6, 6, 6, 6, 6, 6, 6, 6, 6, 6, 6, 6, 6, 6, 6, 6, 6, 6, 6, 6, 6, 6, 6, 6, 6, 6, 6, 7, 7, 7, 7, 7, 7, 7, 7, 7, 7, 7, 7, 7, 7, 7, 7, 7, 7, 7, 7, 7, 7, 7, 7, 7, 7, 7, 7, 7, 7, 7, 7, 7, 7, 7, 7, 7, 7, 7, 7, 7, 7, 7, 7, 7, 7, 7, 7, 7, 7, 7, 7, 7, 7, 7, 7, 7, 7, 7, 7, 7, 7, 7, 7, 8, 8, 8, 8, 8, 8, 8, 8, 8, 8, 8, 8, 8, 8, 8, 8, 8, 8, 8, 8, 8, 8, 8, 8, 8, 8, 8, 8, 8, 8, 8, 8, 8, 8, 8, 8, 8, 8, 8, 8, 8, 8, 8, 8, 8, 8, 8, 8, 8, 8, 8, 8, 8, 8, 8, 8, 8, 8, 8, 8, 8, 8, 8, 8, 8, 8, 8, 8, 8, 8, 8, 8, 8, 8, 8, 8, 8, 8, 8, 8, 8, 8, 8, 8, 8, 8, 8, 8, 8, 8, 8, 8, 8, 8, 8, 8, 8, 8, 8, 8, 8, 8, 8, 8, 8, 8, 8, 8, 8, 8, 8, 8, 8, 8, 8, 8, 8, 8, 8, 8, 8, 8, 8, 8, 8, 8, 8, 8] }
theorem tab_all : ∀ m : Fin 256, tabB.data.toList.getD m.val 0 ≤ 8 ∧ (1 ≤ m.val → 2 ^ (tabB.data.toList.getD m.val 0).toNat ≤ 2 * m.val) := by decide +kernel
theorem tab_size : tabB.size = 256 := by kernel_rfl
set_option maxRecDepth 100000 in
theorem tab_at (x : Nat) (h : x < tabB.size) : tabB[x].toNat ≤ 8 ∧ (1 ≤ x → 2 ^ tabB[x].toNat ≤ 2 * x) := by
  have e : tabB[x] = tabB.data.toList.getD x 0 := by
    have h' : x < tabB.data.toList.length := by rw [Array.length_toList]; exact h
    rw [List.getD_eq_getElem?_getD, List.getElem?_eq_getElem h']; rfl
  have := tab_all ⟨x, by rw [tab_size] at h; exact h⟩
  rw [e]
  refine ⟨?_, this.2⟩
  have h8 := this.1
  exact h8

theorem wrap_twice (t : Nat) (h : t ≤ 8) : wrap64 (wrap64 (t : Int)) = (t : Int) := by
  have e : wrap64 (t : Int) = (t : Int) := by
    have := IntWalk.i64_in (t : Int) (by omega)
    rw [IntWalk.i64_left] at this
    exact this
  rw [e, e]
theorem wrap_once (t c : Nat) (h : t ≤ 8) (hc : c ≤ 16) : wrap64 ((c : Int) + wrap64 (t : Int)) = ((c + t : Nat) : Int) := by
  have e : ∀ t : Nat, t ≤ 100 → wrap64 (t : Int) = (t : Int) := fun t ht => by
    have := IntWalk.i64_in (t : Int) (by omega)
    rw [IntWalk.i64_left] at this
    exact this
  rw [e t (by omega), ← Int.natCast_add, e (c + t) (by omega)]

theorem pow_step (t x y c : Nat) (hc : c ≤ x / y) (h : 2 ^ t ≤ 2 * c) (k : Nat) (hy : y = 2 ^ k) : 2 ^ (k + t) ≤ 2 * x := by
  have h1 : y * c ≤ x := Nat.le_trans (Nat.mul_le_mul_left y hc) (Nat.mul_div_le x y)
  rw [Nat.pow_add, ← hy]
  calc y * 2 ^ t ≤ y * (2 * c) := Nat.mul_le_mul_left y h
    _ = 2 * (y * c) := by rw [Nat.mul_left_comm]
    _ ≤ 2 * x := Nat.mul_le_mul_left 2 h1

set_option maxRecDepth 100000 in
set_option maxHeartbeats 4000000 in
theorem len64_any (x : Nat) (hx : x < 16777216) (w : World) :
    Calls Try.prog 49 #[.int .u64 x] w fun e w' => ∃ L : Nat, e = .returned (.int .i64 L) ∧ L ≤ 24 ∧ (1 ≤ x → 2 ^ L ≤ 2 * x) ∧ w' = w := by
  have t32 : decide ((4294967296 : Int) ≤ (x : Int)) = false := decide_eq_false (by omega)
  have t32' : (x : Int) < 4294967296 := by omega
  by_cases h16 : x < 65536
  · have t16 : decide ((65536 : Int) ≤ (x : Int)) = false := decide_eq_false (by omega)
    have t16' : (x : Int) < 65536 := by omega
    by_cases h8 : x < 256
    · have t8 : decide ((256 : Int) ≤ (x : Int)) = false := decide_eq_false (by omega)
      have t8' : (x : Int) < 256 := by omega
      have T := tab_at x (by rw [tab_size]; exact h8)
      go_enter Try.func49, Try.ntmps49
      go_wp2
      go_ret
      exact ⟨tabB[x].toNat, ret_int (wrap_twice _ T.1), by omega, T.2, rfl⟩
    · have t8 : (256 : Int) ≤ (x : Int) := by omega
      obtain ⟨y, hy⟩ : ∃ y : Nat, Hid (y = x / 256) := ⟨_, rfl⟩
      have ey : (x : Int) / 256 = (y : Int) := by have := hy.out; omega
      have y8 : y < 256 := by have := hy.out; omega
      have y8' : (y : Int) < 256 := by omega
      have T := tab_at y (by rw [tab_size]; exact y8)
      go_enter Try.func49, Try.ntmps49
      go_wp2
      go_ret
      refine ⟨8 + tabB[y].toNat, ret_int (wrap_once _ 8 T.1 (by omega)), by omega, fun _ => ?_, rfl⟩
      exact pow_step _ x 256 y (by rw [hy.out]; exact Nat.le_refl _) (T.2 (by have := hy.out; omega)) 8 rfl
  · have t16 : (65536 : Int) ≤ (x : Int) := by omega
    obtain ⟨y, hy⟩ : ∃ y : Nat, Hid (y = x / 65536) := ⟨_, rfl⟩
    have ey : (x : Int) / 65536 = (y : Int) := by have := hy.out; omega
    have y8 : y < 256 := by have := hy.out; omega
    have y8' : (y : Int) < 256 := by omega
    have y8d : decide ((256 : Int) ≤ (y : Int)) = false := decide_eq_false (by omega)
    have T := tab_at y (by rw [tab_size]; exact y8)
    go_enter Try.func49, Try.ntmps49
    go_wp2
    go_ret
    refine ⟨16 + tabB[y].toNat, ret_int (wrap_once _ 16 T.1 (by omega)), by omega, fun _ => ?_, rfl⟩
    exact pow_step _ x 65536 y (by rw [hy.out]; exact Nat.le_refl _) (T.2 (by have := hy.out; omega)) 16 rfl

set_option maxHeartbeats 1000000 in
theorem len_any64 (x : Nat) (hx : x < 16777216) (w : World) :
    Calls Try.prog 37 #[.int .u64 x] w fun e w' => ∃ L : Nat, e = .returned (.int .i64 L) ∧ L ≤ 24 ∧ (1 ≤ x → 2 ^ L ≤ 2 * x) ∧ w' = w := by
  go_enter Try.func37, Try.ntmps37
  go_wp2_with (first | (go_at_call 49; refine (len64_any x hx _).mono ?_; rintro e w1 ⟨L, rfl, h1, h2, rfl⟩))
  go_ret
  exact ⟨L, rfl, h1, h2, rfl⟩
end Go.Proofs.Ytaikeeidjfcijaa
