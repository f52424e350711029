/- label.common, closed, broken. -/
import Derived.Test.YtjjhfmiegoohlaaDoorW3
import Derived.Test.YtjjhfmiegoohlaaDoorM2
import Derived.Deep.QuietTactic
import Derived.BigQuiet
namespace Go.Proofs.YtjjhfmiegoohlaaDoor
open Go.RowKit

theorem u8_ne {x y : UInt8} (h : x ≠ y) : (((x.toNat : Int) == (y.toNat : Int)) : Bool) = false := by
  rw [beq_eq_false_iff_ne]
  intro e
  exact h (UInt8.toNat_inj.1 (by omega))

set_option maxHeartbeats 1000000 in
theorem common_any (s t : ByteArray) (hs : s.size ≤ maxLen) (_ht : t.size ≤ maxLen) (w : World) :
    Calls Tryd.prog 28 #[.string s, .string t] w fun e w' => e = .returned (.int .i64 (comm s.data.toList t.data.toList)) ∧ ∃ n, w' = w.drewN n := by
  unfold maxLen at hs _ht
  go_enter Tryd.func28, Tryd.ntmps28
  go_wp2
  go_loopw [5] (fun i wr => ∃ k n : Nat, k ≤ s.size ∧ k ≤ t.size ∧ i = .int .i64 k ∧ comm s.data.toList t.data.toList = k + comm (s.data.toList.drop k) (t.data.toList.drop k) ∧ wr = w.drewN n) (fun i _ => s.size - (intOf i).toNat)
  case atStart => exact ⟨0, 0, Nat.zero_le _, Nat.zero_le _, rfl, by simp, rfl⟩
  case round =>
    obtain ⟨k, n, hk1, hk2, rfl, hc, rfl⟩ := hrel
    have HC : Hid _ := hc
    clear hc
    by_cases h1 : k < s.size
    · have h1' : (k : Int) < (s.size : Int) := by omega
      have hk0 : (0 : Int) ≤ (k : Int) := by omega
      by_cases h2 : k < t.size
      · have h2' : (k : Int) < (t.size : Int) := by omega
        by_cases he : s[k] = t[k]
        · have e1 : (((s[k].toNat : Int) == (t[k].toNat : Int)) : Bool) = true := by rw [he]; simp
          have H1 : Hid _ := comm_yes s t k h1 h2 he
          clear he
          go_wp2_with fail
          go_quiet (fail)
          go_wp2
          go_roundw
          case rel => exact ⟨k + 1, n + nq, by omega, by omega, by go_num, by rw [HC.out, H1.out]; omega, by simp⟩
          case measure => simp [intOf]; omega
        · have e1 := u8_ne he
          have H1 : Hid _ := comm_no s t k h1 h2 he
          clear he
          go_wp2_with fail
          go_quiet (fail)
          go_wp2
          go_ret
          exact ⟨ret_int (by rw [HC.out, H1.out]; simp), n + nq, by simp⟩
      · have h2' : decide ((k : Int) < (t.size : Int)) = false := by simp; omega
        have H1 : Hid _ := comm_end2 s t k (by omega)
        go_wp2_with fail
        go_quiet (fail)
        go_wp2
        go_ret
        exact ⟨ret_int (by rw [HC.out, H1.out]; simp), n + nq, by simp⟩
    · have h1' : decide ((k : Int) < (s.size : Int)) = false := by simp; omega
      have H1 : Hid _ := comm_end1 s t k (by omega)
      go_wp2_with fail
      go_quiet (fail)
      go_wp2
      go_ret
      exact ⟨ret_int (by rw [HC.out, H1.out]; simp), n + nq, by simp⟩
theorem common_at (s t : ByteArray) (p c : Nat) (hs : s.size ≤ maxLen) (ht : t.size ≤ maxLen) (hc : Hid (comm (s.data.toList.drop p) t.data.toList = c)) (w : World) :
    Calls Tryd.prog 28 #[.string (s.extract p s.size), .string t] w fun e w' => e = .returned (.int .i64 c) ∧ ∃ n, w' = w.drewN n := by
  have e1 : (s.extract p s.size).data.toList = s.data.toList.drop p := by
    simp [List.extract, List.take_of_length_le, List.length_drop]
  have := common_any (s.extract p s.size) t (by simp; omega) ht w
  rw [e1, hc.out] at this
  exact this

theorem ret3 {k1 k2 k3 : IntKind} {a b c a' b' c' : Int} (h1 : a = a') (h2 : b = b') (h3 : c = c') : Ending.returned (.tuple #[.int k1 a, .int k2 b, .int k3 c]) = .returned (.tuple #[.int k1 a', .int k2 b', .int k3 c']) := by rw [h1, h2, h3]

set_option maxHeartbeats 400000 in
theorem closed_any (s : ByteArray) (a n : Nat) (w : World) :
    Calls Tryd.prog 29 #[.string s, .int .u64 a, .int .i64 n] w fun e w' => e = .returned (.tuple #[.int .u64 (closedL s.size a n).1, .int .i64 (closedL s.size a n).2.1, .int .i64 (closedL s.size a n).2.2]) ∧ w' = w := by
  by_cases h : n < s.size
  · have e1 : closedL s.size a n = (0, 6, n) := by unfold closedL; rw [if_pos h]
    rw [e1]
    have h' : (n : Int) < (s.size : Int) := by omega
    go_enter Tryd.func29, Tryd.ntmps29
    go_wp2
    go_ret3
    exact ⟨rfl, rfl⟩
  · have e1 : closedL s.size a n = (a, 0, 0) := by unfold closedL; rw [if_neg h]
    rw [e1]
    have h' : decide ((n : Int) < (s.size : Int)) = false := by simp; omega
    go_enter Tryd.func29, Tryd.ntmps29
    go_wp2
    go_ret3
    exact ⟨rfl, rfl⟩

set_option maxHeartbeats 400000 in
theorem broken_any (s : ByteArray) (n : Nat) (w : World) :
    Calls Tryd.prog 30 #[.string s, .int .i64 n] w fun e w' => e = .returned (.tuple #[.int .u64 (brokenL s.size n).1, .int .i64 (brokenL s.size n).2.1, .int .i64 (brokenL s.size n).2.2]) ∧ w' = w := by
  by_cases h : n = s.size
  · have e1 : brokenL s.size n = (0, 5, n) := by unfold brokenL; rw [if_pos h]
    rw [e1]
    have h' : (((n : Int) == (s.size : Int)) : Bool) = true := by simp; omega
    clear h e1
    go_enter Tryd.func30, Tryd.ntmps30
    go_wp2
    go_ret3
    exact ⟨rfl, rfl⟩
  · have e1 : brokenL s.size n = (0, 4, n) := by unfold brokenL; rw [if_neg h]
    rw [e1]
    have h' : (((n : Int) == (s.size : Int)) : Bool) = false := by simp; omega
    go_enter Tryd.func30, Tryd.ntmps30
    go_wp2
    go_ret3
    exact ⟨rfl, rfl⟩
end Go.Proofs.YtjjhfmiegoohlaaDoor
