/- has, may, behind, Put, Drop. -/
import Derived.Test.YtknklbojcnhjcaaPW1
namespace Go.Proofs.Ytknklbojcnhjcaa
open Go.RowKit

theorem isP_yes {n : Nat} {lane : Int} (h : isP n lane = true) : 0 ≤ lane ∧ lane < (n : Int) := by simpa [isP] using h
theorem isP_no {n : Nat} {lane : Int} (h : isP n lane = false) : lane < 0 ∨ (n : Int) ≤ lane := by
  simp [isP] at h
  omega

section
variable {b : Nat} {F : Nat → Prop} {ss : List LS} {cur : Nat} {w : World}
theorem has_any (h : Ps w 59 89 60 b F ss cur) (lane : Int) :
    Calls Try.prog 37 #[.pointer (some ⟨b, 0, none⟩), .int .i64 lane] w fun e w' => e = .returned (.bool (isP ss.length lane)) ∧ w' = w := by
  obtain ⟨a, cap, bs, Fs, h, -, -⟩ := h
  obtain ⟨k0, k1⟩ := h.cells
  obtain ⟨n, hn⟩ : ∃ n, Hid (ss.length = n) := ⟨_, rfl⟩
  rw [hn.out] at k0 ⊢
  clear h
  by_cases h0 : 0 ≤ lane
  · by_cases h1 : lane < (n : Int)
    · rw [show isP n lane = true by simp [isP]; omega]
      go_enter Try.func37, Try.ntmps37
      go_wp2
      go_ret
      exact ⟨rfl, rfl⟩
    · rw [show isP n lane = false by simp [isP]; omega]
      have h1' : decide (lane < (n : Int)) = false := by simp; omega
      clear h1
      go_enter Try.func37, Try.ntmps37
      go_wp2
      go_ret
      exact ⟨rfl, rfl⟩
  · rw [show isP n lane = false by simp [isP]; omega]
    have h0' : decide (0 ≤ lane) = false := by simp; omega
    have h0'' : lane < 0 := by omega
    clear h0
    go_enter Try.func37, Try.ntmps37
    go_wp2
    go_ret
    exact ⟨rfl, rfl⟩

def mayP (n room : Int) : Bool := decide ((1 ≤ n ∧ n ≤ 9) ∧ 1 ≤ room ∧ room ≤ 64)
theorem may_any (n room : Int) (w : World) : Calls Try.prog 20 #[.int .i64 n, .int .i64 room] w fun e w' => e = .returned (.bool (mayP n room)) ∧ w' = w := by
  by_cases h0 : 1 ≤ n
  · by_cases h1 : n ≤ 9
    · by_cases h2 : 1 ≤ room
      · by_cases h3 : room ≤ 64
        · rw [show mayP n room = true by simp [mayP]; omega]
          go_enter Try.func20, Try.ntmps20
          go_wp2
          go_ret
          exact ⟨rfl, rfl⟩
        · rw [show mayP n room = false by simp [mayP]; omega]
          have h3' : decide (room ≤ 64) = false := by simp; omega
          have h3'' : 64 < room := by omega
          clear h3
          go_enter Try.func20, Try.ntmps20
          go_wp2
          go_ret
          exact ⟨rfl, rfl⟩
      · rw [show mayP n room = false by simp [mayP]; omega]
        have h3' : decide (1 ≤ room) = false := by simp; omega
        have h3'' : room < 1 := by omega
        clear h2
        go_enter Try.func20, Try.ntmps20
        go_wp2
        go_ret
        exact ⟨rfl, rfl⟩
    · rw [show mayP n room = false by simp [mayP]; omega]
      have h3' : decide (n ≤ 9) = false := by simp; omega
      have h3'' : 9 < n := by omega
      clear h1
      go_enter Try.func20, Try.ntmps20
      go_wp2
      go_ret
      exact ⟨rfl, rfl⟩
  · rw [show mayP n room = false by simp [mayP]; omega]
    have h3' : decide (1 ≤ n) = false := by simp; omega
    have h3'' : n < 1 := by omega
    clear h0
    go_enter Try.func20, Try.ntmps20
    go_wp2
    go_ret
    exact ⟨rfl, rfl⟩

theorem behind_any {c : Value} {w : World} {a : Option Addr} {cap n i : Nat} (k0 : w.cell? ⟨b, 0, none⟩ = some (.slice a n cap)) (hi : i < n) (hn : n ≤ 9) (hc : c = .int .i64 (((i + 1) % n : Nat) : Int)) :
    Calls Try.prog 42 #[.pointer (some ⟨b, 0, none⟩), .int .i64 (i : Int)] w fun e w' => e = .returned c ∧ w' = w := by
  subst hc
  obtain ⟨m, hm⟩ : ∃ m, Hid ((i + 1) % n = m) := ⟨_, rfl⟩
  have ht : ((i : Int) + 1).tmod (n : Int) = (m : Int) := by rw [← hm.out]; rw [show (i : Int) + 1 = ((i + 1 : Nat) : Int) by omega]; exact (Int.ofNat_tmod _ _).symm
  have hn0 : (n : Int) ≠ 0 := by omega
  have hm0 : m < n := by rw [← hm.out]; exact Nat.mod_lt _ (by omega)
  rw [hm.out]
  clear hm
  go_enter Try.func42, Try.ntmps42
  go_wp2
  go_ret
  exact ⟨rfl, rfl⟩
end
end Go.Proofs.Ytknklbojcnhjcaa
