/- The document's own Has, Flows, Count, Print. -/
import Derived.Test.YtjjhfmiegoohlaaDoorW7
namespace Go.Proofs.YtjjhfmiegoohlaaDoor
open Go.RowKit

set_option maxHeartbeats 400000 in
theorem rhas_any (a : Nat) (n : Int) (ha : a < 18446744073709551616) (w : World) :
    Calls Tryd.prog 16 #[.int .u64 a, .int .i64 n] w fun e w' => e = .returned (.bool (hasI a n)) ∧ w' = w := by
  by_cases h0 : 0 ≤ n
  · obtain ⟨m, rfl⟩ := Int.eq_ofNat_of_zero_le h0
    by_cases h1 : m < 64
    · have e1 : hasI a (m : Int) = a.testBit m := by
        unfold hasI
        rw [decide_eq_true h0, decide_eq_true (show (m : Int) < 64 by omega), Int.toNat_natCast]; rfl
      rw [e1]
      go_enter Tryd.func16, Tryd.ntmps16
      go_wp2
      go_ret
      refine ⟨ret_bool ?_, rfl⟩
      have e2 : (a : Int) / 2 ^ m = ((a / 2 ^ m : Nat) : Int) := by simp
      have h3 : a / 2 ^ m ≤ a := Nat.div_le_self _ _
      have h4 := u64_and_nat (a / 2 ^ m) 1 (by omega) (by decide)
      rw [e2, show (1 : Int) = ((1 : Nat) : Int) from rfl, h4, int_beq, Nat.testBit_eq_decide_div_mod_eq, nat_mask1]
      rcases Nat.mod_two_eq_zero_or_one (a / 2 ^ m) with h | h <;> simp [h]
    · have h2 : decide ((m : Int) ≤ 63) = false := by simp; omega
      have e1 : hasI a (m : Int) = false := by unfold hasI; simp; omega
      rw [e1]
      go_enter Tryd.func16, Tryd.ntmps16
      go_wp2
      go_ret
      exact ⟨rfl, rfl⟩
  · have h2 : decide (0 ≤ n) = false := by simp; omega
    have e1 : hasI a n = false := by unfold hasI; rw [h2]; simp
    rw [e1]
    go_enter Tryd.func16, Tryd.ntmps16
    go_wp2
    go_ret
    exact ⟨rfl, rfl⟩
theorem hasI_nat (a k : Nat) (h : k < 64) : hasI a (k : Int) = a.testBit k := by
  unfold hasI
  rw [decide_eq_true (show (0 : Int) ≤ k by omega), decide_eq_true (show (k : Int) < 64 by omega), Int.toNat_natCast]; rfl

theorem rhas_at (a k : Nat) (b : Bool) (ha : a < 18446744073709551616) (hk : k < 64) (hb : a.testBit k = b) (w : World) :
    Calls Tryd.prog 16 #[.int .u64 a, .int .i64 k] w fun e w' => e = .returned (.bool b) ∧ w' = w := by
  have := rhas_any a k ha w
  rw [hasI_nat a k hk, hb] at this
  exact this

theorem flows_all (a b : Nat) (ha : a < 18446744073709551616) (h : ∀ i, i < 64 → a.testBit i = true → b.testBit i = true) : flowsB a b = true := by
  rw [flows_iff]
  intro i hi
  by_cases h64 : i < 64
  · exact h i h64 hi
  · rw [tb_big a i ha (by omega)] at hi; cases hi
theorem flows_not (a b i : Nat) (h1 : a.testBit i = true) (h2 : b.testBit i = false) : flowsB a b = false := by
  cases h : flowsB a b
  · rfl
  · rw [flows_iff] at h
    rw [h i h1] at h2
    cases h2

set_option maxHeartbeats 1000000 in
theorem rflows_any (a b : Nat) (ha : a < 18446744073709551616) (hb : b < 18446744073709551616) (w : World) :
    Calls Tryd.prog 10 #[.int .u64 a, .int .u64 b] w fun e w' => e = .returned (.bool (flowsB a b)) ∧ w' = w := by
  go_enter Tryd.func10, Tryd.ntmps10
  go_wp2
  go_loop [5] (fun i => ∃ k : Nat, k ≤ 64 ∧ i = .int .i64 k ∧ Hid (∀ i, i < k → a.testBit i = true → b.testBit i = true)) (fun i => 64 - (intOf i).toNat)
  case atStart => exact ⟨0, Nat.zero_le _, rfl, fun i hi => absurd hi (Nat.not_lt_zero i)⟩
  case round =>
    obtain ⟨k, hk, rfl, hall⟩ := hrel
    by_cases hlt : k < 64
    · cases h1 : a.testBit k
      · have H : Hid (∀ i, i < k + 1 → a.testBit i = true → b.testBit i = true) := fun i hi hx => by
          by_cases e : i = k
          · subst e; rw [h1] at hx; cases hx
          · exact hall i (by omega) hx
        go_wp2_with (go_at_call 16; refine (rhas_at a k false ha hlt h1 _).mono ?_; rintro e w' ⟨rfl, rfl⟩)
        go_round
        case rel => exact ⟨k + 1, by omega, by go_num, H⟩
        case measure => simp [intOf]; omega
      · cases h2 : b.testBit k
        · have hf := flows_not a b k h1 h2
          go_wp2_with fail
          refine (rhas_at a k true ha hlt h1 _).mono ?_
          rintro e w' ⟨rfl, rfl⟩
          go_wp2_with fail
          refine (rhas_at b k false hb hlt h2 _).mono ?_
          rintro e w' ⟨rfl, rfl⟩
          go_wp2
          go_ret
          exact ⟨ret_bool hf.symm, rfl⟩
        · have H : Hid (∀ i, i < k + 1 → a.testBit i = true → b.testBit i = true) := fun i hi hx => by
            by_cases e : i = k
            · subst e; exact h2
            · exact hall i (by omega) hx
          go_wp2_with fail
          refine (rhas_at a k true ha hlt h1 _).mono ?_
          rintro e w' ⟨rfl, rfl⟩
          go_wp2_with fail
          refine (rhas_at b k true hb hlt h2 _).mono ?_
          rintro e w' ⟨rfl, rfl⟩
          go_wp2
          go_round
          case rel => exact ⟨k + 1, by omega, by go_num, H⟩
          case measure => simp [intOf]; omega
    · have hf := flows_all a b ha (fun i hi => hall i (by omega))
      go_wp2
      go_ret
      exact ⟨rfl, rfl⟩

set_option maxHeartbeats 1000000 in
theorem rcount_any (a : Nat) (ha : a < 18446744073709551616) (w : World) :
    Calls Tryd.prog 18 #[.int .u64 a] w fun e w' => e = .returned (.int .i64 (cnt a)) ∧ w' = w := by
  go_enter Tryd.func18, Tryd.ntmps18
  go_wp2
  go_loop [3, 4] (fun c i => ∃ k : Nat, k ≤ 64 ∧ i = .int .i64 k ∧ c = .int .i64 (cntTo a k)) (fun _ i => 64 - (intOf i).toNat)
  case atStart => exact ⟨0, Nat.zero_le _, rfl, rfl⟩
  case round =>
    obtain ⟨k, hk, rfl, rfl⟩ := hrel
    have hc := cntTo_le a k
    by_cases hlt : k < 64
    · cases h1 : a.testBit k
      · have H : Hid (cntTo a (k + 1) = cntTo a k) := by rw [Hid, cntTo, h1]; rfl
        go_wp2_with (go_at_call 16; refine (rhas_at a k false ha hlt h1 _).mono ?_; rintro e w' ⟨rfl, rfl⟩)
        go_round
        case rel => exact ⟨k + 1, by omega, by go_num, by rw [H.out]⟩
        case measure => simp [intOf]; omega
      · have H : Hid (cntTo a (k + 1) = cntTo a k + 1) := by rw [Hid, cntTo, h1]; rfl
        go_wp2_with (go_at_call 16; refine (rhas_at a k true ha hlt h1 _).mono ?_; rintro e w' ⟨rfl, rfl⟩)
        go_round
        case rel => exact ⟨k + 1, by omega, by go_num, by rw [H.out]; go_num⟩
        case measure => simp [intOf]; omega
    · obtain rfl : k = 64 := by omega
      go_wp2
      go_ret
      exact ⟨rfl, rfl⟩

end Go.Proofs.YtjjhfmiegoohlaaDoor
