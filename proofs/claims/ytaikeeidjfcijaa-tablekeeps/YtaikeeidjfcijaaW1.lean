/- The small functions of package label and of the document's own layer 1, as contracts. -/
import Derived.Test.YtaikeeidjfcijaaRows
import Derived.Test.YtaikeeidjfcijaaM1
import Derived.WalkKit
import Derived.WalkSpells
import Derived.WalkLawsBesides
namespace Go.Proofs.Ytaikeeidjfcijaa
open Go.RowKit

theorem ret_bool {a b : Bool} (h : a = b) : Ending.returned (.bool a) = .returned (.bool b) := by rw [h]
theorem ret_int {k : IntKind} {a b : Int} (h : a = b) : Ending.returned (.int k a) = .returned (.int k b) := by rw [h]
theorem int_beq (a b : Nat) : (((a : Int) == (b : Int)) : Bool) = (a == b) := by
  rw [Bool.eq_iff_iff]; simp only [beq_iff_eq]; omega

set_option maxHeartbeats 400000 in
theorem flows_any (a b : Nat) (ha : a < 18446744073709551616) (hb : b < 18446744073709551616) (w : World) :
    Calls Try.prog 34 #[.int .u64 a, .int .u64 b] w fun e w' => e = .returned (.bool (flowsB a b)) ∧ w' = w := by
  go_enter Try.func34, Try.ntmps34
  go_wp2
  go_ret
  refine ⟨ret_bool ?_, rfl⟩
  rw [u64_andNot_nat a b ha hb, ← flows_andNot a b ha hb]
  exact int_beq _ 0

set_option maxHeartbeats 400000 in
theorem rhas_any (a : Nat) (n : Int) (ha : a < 18446744073709551616) (w : World) :
    Calls Try.prog 38 #[.int .u64 a, .int .i64 n] w fun e w' => e = .returned (.bool (hasI a n)) ∧ w' = w := by
  by_cases h0 : 0 ≤ n
  · obtain ⟨m, rfl⟩ := Int.eq_ofNat_of_zero_le h0
    by_cases h1 : m < 64
    · have e1 : hasI a (m : Int) = a.testBit m := by
        unfold hasI
        rw [decide_eq_true h0, decide_eq_true (show (m : Int) < 64 by omega), Int.toNat_natCast]; rfl
      rw [e1]
      go_enter Try.func38, Try.ntmps38
      go_wp2
      go_ret
      refine ⟨ret_bool ?_, rfl⟩
      have e2 : (a : Int) / 2 ^ m = ((a / 2 ^ m : Nat) : Int) := by simp
      have h3 : a / 2 ^ m ≤ a := Nat.div_le_self _ _
      have h4 := u64_and_nat (a / 2 ^ m) 1 (by omega) (by decide)
      rw [e2, show (1 : Int) = ((1 : Nat) : Int) from rfl, h4, int_beq, Nat.testBit_eq_decide_div_mod_eq, nat_mask1]
      rcases Nat.mod_two_eq_zero_or_one (a / 2 ^ m) with h | h <;> simp [h]
    · have h2 : decide ((m : Int) ≤ 63) = false := by simp; omega
      have e1 : hasI a (m : Int) = false := by unfold hasI; simp; omega
      rw [e1]
      go_enter Try.func38, Try.ntmps38
      go_wp2
      go_ret
      exact ⟨rfl, rfl⟩
  · have h2 : decide (0 ≤ n) = false := by simp; omega
    have e1 : hasI a n = false := by unfold hasI; rw [h2]; simp
    rw [e1]
    go_enter Try.func38, Try.ntmps38
    go_wp2
    go_ret
    exact ⟨rfl, rfl⟩
theorem hasI_nat (a k : Nat) (h : k < 64) : hasI a (k : Int) = a.testBit k := by
  unfold hasI
  rw [decide_eq_true (show (0 : Int) ≤ k by omega), decide_eq_true (show (k : Int) < 64 by omega), Int.toNat_natCast]; rfl

theorem rhas_at (a k : Nat) (b : Bool) (ha : a < 18446744073709551616) (hk : k < 64) (hb : a.testBit k = b) (w : World) :
    Calls Try.prog 38 #[.int .u64 a, .int .i64 k] w fun e w' => e = .returned (.bool b) ∧ w' = w := by
  have := rhas_any a k ha w
  rw [hasI_nat a k hk, hb] at this
  exact this

theorem flows_all (a b : Nat) (ha : a < 18446744073709551616) (h : ∀ i, i < 64 → a.testBit i = true → b.testBit i = true) : flowsB a b = true := by
  rw [flows_iff]
  intro i hi
  by_cases h64 : i < 64
  · exact h i h64 hi
  · rw [tb_big a i ha (by omega)] at hi; cases hi
theorem flows_not (a b i : Nat) (h1 : a.testBit i = true) (h2 : b.testBit i = false) : flowsB a b = false := by
  cases h : flowsB a b
  · rfl
  · rw [flows_iff] at h
    rw [h i h1] at h2
    cases h2

set_option maxHeartbeats 1000000 in
theorem rflows_any (a b : Nat) (ha : a < 18446744073709551616) (hb : b < 18446744073709551616) (w : World) :
    Calls Try.prog 35 #[.int .u64 a, .int .u64 b] w fun e w' => e = .returned (.bool (flowsB a b)) ∧ w' = w := by
  go_enter Try.func35, Try.ntmps35
  go_wp2
  go_loop [5] (fun i => ∃ k : Nat, k ≤ 64 ∧ i = .int .i64 k ∧ Hid (∀ i, i < k → a.testBit i = true → b.testBit i = true)) (fun i => 64 - (intOf i).toNat)
  case atStart => exact ⟨0, Nat.zero_le _, rfl, fun i hi => absurd hi (Nat.not_lt_zero i)⟩
  case round =>
    obtain ⟨k, hk, rfl, hall⟩ := hrel
    by_cases hlt : k < 64
    · cases h1 : a.testBit k
      · have H : Hid (∀ i, i < k + 1 → a.testBit i = true → b.testBit i = true) := fun i hi hx => by
          by_cases e : i = k
          · subst e; rw [h1] at hx; cases hx
          · exact hall i (by omega) hx
        go_wp2_with (go_at_call 38; refine (rhas_at a k false ha hlt h1 _).mono ?_; rintro e w' ⟨rfl, rfl⟩)
        go_round
        case rel => exact ⟨k + 1, by omega, by go_num, H⟩
        case measure => simp [intOf]; omega
      · cases h2 : b.testBit k
        · have hf := flows_not a b k h1 h2
          go_wp2_with fail
          refine (rhas_at a k true ha hlt h1 _).mono ?_
          rintro e w' ⟨rfl, rfl⟩
          go_wp2_with fail
          refine (rhas_at b k false hb hlt h2 _).mono ?_
          rintro e w' ⟨rfl, rfl⟩
          go_wp2
          go_ret
          exact ⟨ret_bool hf.symm, rfl⟩
        · have H : Hid (∀ i, i < k + 1 → a.testBit i = true → b.testBit i = true) := fun i hi hx => by
            by_cases e : i = k
            · subst e; exact h2
            · exact hall i (by omega) hx
          go_wp2_with fail
          refine (rhas_at a k true ha hlt h1 _).mono ?_
          rintro e w' ⟨rfl, rfl⟩
          go_wp2_with fail
          refine (rhas_at b k true hb hlt h2 _).mono ?_
          rintro e w' ⟨rfl, rfl⟩
          go_wp2
          go_round
          case rel => exact ⟨k + 1, by omega, by go_num, H⟩
          case measure => simp [intOf]; omega
    · have hf := flows_all a b ha (fun i hi => hall i (by omega))
      go_wp2
      go_ret
      exact ⟨rfl, rfl⟩

end Go.Proofs.Ytaikeeidjfcijaa
