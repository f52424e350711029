/- The calls, case by case. -/
import Derived.Test.YtdihbbpndijdoaaKM1
namespace Go.Proofs.Ytdihbbpndijdoaa

theorem mayE_zero {n : Nat} {lock p : Int} (h : mayE n lock p = 0) : ∃ i : Nat, lock = (i : Int) ∧ i < n ∧ 0 ≤ p := by
  unfold mayE at h
  split at h
  · simp at h
  · split at h
    · simp at h
    · exact ⟨lock.toNat, by omega, by omega, by omega⟩
section
variable {os : List Int} {qs : Qs} {p lock : Int} {i : Nat}
theorem give_bad (h : mayE os.length lock p ≠ 0) : giveR os qs lock p = (0, mayE os.length lock p) ∧ giveO os qs lock p = os ∧ giveQ os qs lock p = qs := by
  unfold giveR giveO giveQ
  rw [if_pos h, if_pos h, if_pos h]
  exact ⟨rfl, rfl, rfl⟩
theorem give_yes (h : mayE os.length (i : Int) p = 0) (h2 : oAt os i = p) : giveR os qs i p = (oAt (handO os qs i) i, 0) ∧ giveO os qs i p = handO os qs i ∧ giveQ os qs i p = handQ qs i := by
  have e : ((i : Int)).toNat = i := by omega
  have e2 : giveO os qs i p = handO os qs i := by unfold giveO; rw [if_neg (by omega), e, if_pos h2]
  refine ⟨?_, e2, ?_⟩
  · unfold giveR; rw [if_neg (by omega), e2, e]
  · unfold giveQ; rw [if_neg (by omega), e, if_pos h2]
theorem give_no (h : mayE os.length (i : Int) p = 0) (h2 : oAt os i ≠ p) : giveR os qs i p = (oAt os i, 0) ∧ giveO os qs i p = os ∧ giveQ os qs i p = qs := by
  have e : ((i : Int)).toNat = i := by omega
  have e2 : giveO os qs i p = os := by unfold giveO; rw [if_neg (by omega), e, if_neg h2]
  refine ⟨?_, e2, ?_⟩
  · unfold giveR; rw [if_neg (by omega), e2, e]
  · unfold giveQ; rw [if_neg (by omega), e, if_neg h2]
theorem take_bad (h : mayE os.length lock p ≠ 0) : takeR os qs lock p = (false, mayE os.length lock p) ∧ takeO os qs lock p = os ∧ takeQ os qs lock p = qs := by
  unfold takeR takeO takeQ
  rw [if_pos h, if_pos h, if_pos h]
  exact ⟨rfl, rfl, rfl⟩
theorem take_waits (h : mayE os.length lock p = 0) (h1 : wt qs p ≠ none) : takeR os qs lock p = (false, 20) ∧ takeO os qs lock p = os ∧ takeQ os qs lock p = qs := by
  simp [takeR, takeO, takeQ, h, h1]
theorem take_has (h : mayE os.length (i : Int) p = 0) (h1 : wt qs p = none) (h2 : oAt os i = p) : takeR os qs i p = (true, 0) ∧ takeO os qs i p = os ∧ takeQ os qs i p = qs := by
  obtain ⟨_, _, _, hp⟩ := mayE_zero h
  have hn : ¬ p = -1 := by omega
  simp [takeR, takeO, takeQ, h, h1, h2, hn]
theorem take_free (h : mayE os.length (i : Int) p = 0) (h1 : wt qs p = none) (h2 : oAt os i = -1) : takeR os qs i p = (true, 0) ∧ takeO os qs i p = os.set i p ∧ takeQ os qs i p = qs := by
  simp [takeR, takeO, takeQ, h, h1, h2]
theorem take_queue (h : mayE os.length (i : Int) p = 0) (h1 : wt qs p = none) (h2 : oAt os i ≠ p) (h3 : oAt os i ≠ -1) : takeR os qs i p = (false, 0) ∧ takeO os qs i p = os ∧ takeQ os qs i p = qs.set i (qAt qs i ++ [p]) := by
  simp [takeR, takeO, takeQ, h, h1, h2, h3]
end
end Go.Proofs.Ytdihbbpndijdoaa
