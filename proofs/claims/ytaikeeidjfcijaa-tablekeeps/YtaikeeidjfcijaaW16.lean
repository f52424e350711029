/- Is a number in a list of ints? -/
import Derived.Test.YtaikeeidjfcijaaW13
namespace Go.Proofs.Ytaikeeidjfcijaa
open Go.RowKit Go.Maps

set_option maxRecDepth 100000 in
set_option maxHeartbeats 1000000 in
theorem hasL_any (a : Option Addr) (cap : Nat) (l : List Nat) (w : World) (hC : Cells w a (intCells l)) (hlen : l.length ≤ 1000) (q : Nat) :
    Calls Try.prog 28 #[.slice a l.length cap, .int .i64 q] w fun e w' => e = .returned (.bool (decide (q ∈ l))) ∧ w' = w := by
  go_enter Try.func28, Try.ntmps28
  go_wp2
  go_loop [9] (fun i => ∃ k : Nat, k ≤ l.length ∧ i = .int .i64 k ∧ Hid (∀ j, j < k → l.getD j 0 ≠ q)) (fun i => l.length - (intOf i).toNat)
  case atStart => exact ⟨0, Nat.zero_le _, rfl, fun j hj => absurd hj (Nat.not_lt_zero j)⟩
  case round =>
    obtain ⟨k, hk, rfl, hno⟩ := hrel
    by_cases hlt : k < l.length
    · obtain ⟨b, off, rfl, hc⟩ := hC (int_ne l k hlt)
      have hx : w.cell? ⟨b, off + k, none⟩ = some (.int .i64 (l.getD k 0 : Nat)) := hc k _ (int_at l k hlt)
      have hlt' : (k : Int) < (l.length : Int) := by omega
      clear hc hC
      by_cases he : l.getD k 0 = q
      · have E : Hid (decide (q ∈ l) = true) := by
          show _ = _
          rw [decide_eq_true_eq, ← he]
          simp only [List.getD_eq_getElem?_getD, List.getElem?_eq_getElem hlt, Option.getD_some]
          exact List.getElem_mem hlt
        generalize l.getD k 0 = x at *
        have t1 : ((x : Int) == (q : Int)) = true := by rw [beq_iff_eq]; omega
        clear he
        go_wp2
        go_ret
        exact ⟨by rw [E.out]; rfl, rfl⟩
      · have E : Hid (∀ j, j < k + 1 → l.getD j 0 ≠ q) := fun j hj => by
          by_cases e : j = k
          · subst e; exact he
          · exact hno.out j (by omega)
        generalize l.getD k 0 = x at *
        have t1 : ((x : Int) == (q : Int)) = false := by rw [beq_eq_false_iff_ne]; omega
        clear he
        go_wp2
        go_round
        case rel => exact ⟨k + 1, by omega, by go_num, E⟩
        case measure => simp [intOf]; omega
    · have ek : k = l.length := by omega
      subst ek
      have E : Hid (decide (q ∈ l) = false) := by
        show _ = _
        rw [decide_eq_false_iff_not]
        intro hm
        obtain ⟨j, hj, e⟩ := mem_getD hm
        exact hno.out j hj e
      go_wp2
      go_ret
      exact ⟨by rw [E.out]; rfl, rfl⟩
end Go.Proofs.Ytaikeeidjfcijaa
