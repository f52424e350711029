/- Numbers as bytes; what reading comes to. -/
import Derived.RowKit
namespace Go.Proofs.Ytnkanaccacephaa
open Go.RowKit

/-- A number's rest by 256, by 2^64. -/
def b8 (z : Int) : Nat := (z % 256).toNat
def u64 (z : Int) : Nat := (z % 18446744073709551616).toNat
theorem u64_lt (z : Int) : u64 z < 18446744073709551616 := by unfold u64; omega
/-- Eight bytes, the lowest first. -/
def sumB (bs : List Nat) (at_ : Nat) : Nat → Nat
  | 0 => 0
  | j + 1 => sumB bs at_ j + bs.getD (at_ + j) 0 * 2 ^ (8 * j)
theorem pow_step (j : Nat) : 2 ^ (8 * (j + 1)) = 2 ^ (8 * j) * 256 := by rw [Nat.mul_add, Nat.pow_add]
theorem sumB_lt (bs : List Nat) (p : Nat) (hb : ∀ i, bs.getD i 0 < 256) : ∀ m, sumB bs p m < 2 ^ (8 * m)
  | 0 => by simp [sumB]
  | m + 1 => by
    have ih := sumB_lt bs p hb m
    have h1 : bs.getD (p + m) 0 * 2 ^ (8 * m) ≤ 255 * 2 ^ (8 * m) := Nat.mul_le_mul_right _ (by have := hb (p + m); omega)
    rw [sumB, pow_step]
    omega
theorem sumB_byte (bs : List Nat) (p : Nat) (hb : ∀ i, bs.getD i 0 < 256) : ∀ m j, j < m → sumB bs p m / 2 ^ (8 * j) % 256 = bs.getD (p + j) 0
  | 0, j, h => absurd h (Nat.not_lt_zero j)
  | m + 1, j, h => by
    have hl := sumB_lt bs p hb m
    have hbm := hb (p + m)
    rw [sumB]
    by_cases e : j = m
    · subst e
      rw [Nat.add_mul_div_right _ _ (Nat.two_pow_pos _), Nat.div_eq_of_lt hl]
      omega
    · have ih := sumB_byte bs p hb m j (by omega)
      have e2 : 2 ^ (8 * m) = 2 ^ (8 * j) * (256 * 2 ^ (8 * (m - j - 1))) := by
        rw [show (256 : Nat) = 2 ^ 8 by rfl, ← Nat.pow_add, ← Nat.pow_add]
        congr 1
        omega
      rw [e2, show bs.getD (p + m) 0 * (2 ^ (8 * j) * (256 * 2 ^ (8 * (m - j - 1)))) = 256 * (bs.getD (p + m) 0 * 2 ^ (8 * (m - j - 1))) * 2 ^ (8 * j) by
        simp only [Nat.mul_assoc, Nat.mul_comm, Nat.mul_left_comm], Nat.add_mul_div_right _ _ (Nat.two_pow_pos _), Nat.add_mul_mod_self_left]
      exact ih
theorem sumB_of (bs : List Nat) (p u : Nat) : ∀ m, (∀ j, j < m → bs.getD (p + j) 0 = u / 2 ^ (8 * j) % 256) → sumB bs p m = u % 2 ^ (8 * m)
  | 0, _ => by simp [sumB, Nat.mod_one]
  | m + 1, h => by
    rw [sumB, sumB_of bs p u m (fun j hj => h j (by omega)), h m (by omega), pow_step, Nat.mod_mul]
    congr 1
    exact Nat.mul_comm _ _
theorem wrap64_u64 {z : Int} (h1 : -9223372036854775808 ≤ z) (h2 : z ≤ 9223372036854775807) : wrap64 (u64 z : Nat) = z := by
  unfold wrap64 u64; omega
theorem u64_wrap64 {s : Nat} (h : s < 18446744073709551616) : u64 (wrap64 (s : Int)) = s := by
  unfold wrap64 u64; omega
/-- A number of so many bytes. -/
def numB (k u : Nat) : List Nat := (List.range k).map fun j => u / 2 ^ (8 * j) % 256
/-- What reading comes to. -/
inductive Res (α : Type) where
  | ok (a : α) (p : Nat) : Res α
  | er (e at_ : Int) : Res α
def Par (α : Type) : Type := List Nat → Nat → Res α
def pure_ {α : Type} (a : α) : Par α := fun _ p => .ok a p
def bind_ {α β : Type} (x : Par α) (f : α → Par β) : Par β := fun bs p => match x bs p with
  | .ok a q => f a bs q
  | .er e a => .er e a
/-- The next number, and what is wrong with it. -/
def numP (k : Nat) (f : Nat → Int) : Par Nat := fun bs p =>
  if bs.length < p + k then .er 5 bs.length else if f (sumB bs p k) ≠ 0 then .er (f (sumB bs p k)) p else .ok (sumB bs p k) (p + k)
/-- So many of them, each with those ahead of it known. -/
def repP {α : Type} (f : List α → Par α) : Nat → List α → Par (List α)
  | 0, acc => pure_ acc
  | m + 1, acc => bind_ (f acc) fun a => repP f m (acc ++ [a])
end Go.Proofs.Ytnkanaccacephaa
