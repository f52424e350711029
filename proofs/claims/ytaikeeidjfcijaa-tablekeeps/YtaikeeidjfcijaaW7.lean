/- SameInts and SameLabels of two lists that are the same. -/
import Derived.Test.YtaikeeidjfcijaaW6
namespace Go.Proofs.Ytaikeeidjfcijaa
open Go.RowKit Go.Maps

set_option maxRecDepth 100000 in
set_option maxHeartbeats 1000000 in
theorem sameLabels_yes (a a' : Option Addr) (cap cap' : Nat) (l : List Nat) (w : World) (hC : Cells w a (labCells l)) (hC' : Cells w a' (labCells l)) (hlen : l.length ≤ 2000000) :
    Calls Try.prog 13 #[.slice a l.length cap, .slice a' l.length cap'] w fun e w' => e = .returned (.bool true) ∧ ∃ n, w' = w.drewN n := by
  have hnq : ((l.length : Int) != (l.length : Int)) = false := by simp
  go_enter Try.func13, Try.ntmps13
  go_wp2
  go_loopw [5] (fun i wr => ∃ k : Nat, k ≤ l.length ∧ i = .int .i64 k ∧ ∃ n, wr = w.drewN n) (fun i _ => l.length - (intOf i).toNat)
  case atStart => exact ⟨0, by omega, rfl, 0, rfl⟩
  case round =>
    obtain ⟨k, hk, rfl, n, rfl⟩ := hrel
    by_cases hlt : k < l.length
    · obtain ⟨b, off, rfl, hc⟩ := hC (lab_ne l k hlt)
      obtain ⟨b', off', rfl, hc'⟩ := hC' (lab_ne l k hlt)
      have hx : w.cell? ⟨b, off + k, none⟩ = some (.int .u64 (l.getD k 0 : Nat)) := hc k _ (lab_at l k hlt)
      have hy : w.cell? ⟨b', off' + k, none⟩ = some (.int .u64 (l.getD k 0 : Nat)) := hc' k _ (lab_at l k hlt)
      have hlt' : (k : Int) < (l.length : Int) := by omega
      clear hc hc' hC hC'
      generalize l.getD k 0 = x at *
      have t1 : ((x : Int) != (x : Int)) = false := by simp
      go_wp2_with fail
      go_quiet (fail)
      go_wp2
      exact ⟨⟨k + 1, by omega, by go_num, _, rfl⟩, by simp [intOf]; omega⟩
    · have hlt' : decide ((k : Int) < (l.length : Int)) = false := by simp; omega
      have hge : (l.length : Int) ≤ (k : Int) := by omega
      go_wp2
      go_ret
      exact ⟨rfl, n, rfl⟩

set_option maxRecDepth 100000 in
set_option maxHeartbeats 1000000 in
theorem sameInts_yes (a a' : Option Addr) (cap cap' : Nat) (l : List Nat) (w : World) (hC : Cells w a (intCells l)) (hC' : Cells w a' (intCells l)) (hlen : l.length ≤ 2000000) :
    Calls Try.prog 19 #[.slice a l.length cap, .slice a' l.length cap'] w fun e w' => e = .returned (.bool true) ∧ ∃ n, w' = w.drewN n := by
  have hnq : ((l.length : Int) != (l.length : Int)) = false := by simp
  go_enter Try.func19, Try.ntmps19
  go_wp2
  go_loopw [5] (fun i wr => ∃ k : Nat, k ≤ l.length ∧ i = .int .i64 k ∧ ∃ n, wr = w.drewN n) (fun i _ => l.length - (intOf i).toNat)
  case atStart => exact ⟨0, by omega, rfl, 0, rfl⟩
  case round =>
    obtain ⟨k, hk, rfl, n, rfl⟩ := hrel
    by_cases hlt : k < l.length
    · obtain ⟨b, off, rfl, hc⟩ := hC (int_ne l k hlt)
      obtain ⟨b', off', rfl, hc'⟩ := hC' (int_ne l k hlt)
      have hx : w.cell? ⟨b, off + k, none⟩ = some (.int .i64 (l.getD k 0 : Nat)) := hc k _ (int_at l k hlt)
      have hy : w.cell? ⟨b', off' + k, none⟩ = some (.int .i64 (l.getD k 0 : Nat)) := hc' k _ (int_at l k hlt)
      have hlt' : (k : Int) < (l.length : Int) := by omega
      clear hc hc' hC hC'
      generalize l.getD k 0 = x at *
      have t1 : ((x : Int) != (x : Int)) = false := by simp
      go_wp2_with fail
      go_quiet (fail)
      go_wp2
      exact ⟨⟨k + 1, by omega, by go_num, _, rfl⟩, by simp [intOf]; omega⟩
    · have hlt' : decide ((k : Int) < (l.length : Int)) = false := by simp; omega
      have hge : (l.length : Int) ≤ (k : Int) := by omega
      go_wp2
      go_ret
      exact ⟨rfl, n, rfl⟩
end Go.Proofs.Ytaikeeidjfcijaa
