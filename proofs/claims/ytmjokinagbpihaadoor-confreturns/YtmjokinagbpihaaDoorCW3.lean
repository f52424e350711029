/- What is wrong with an instruction. -/
import Derived.Test.YtmjokinagbpihaaDoorCW2
namespace Go.Proofs.YtmjokinagbpihaaDoor
open Go.RowKit

theorem ret_two {a b a' b' : Int} (h1 : a = a') (h2 : b = b') : Ending.returned (.tuple #[.int .i64 a, .int .i64 b]) = .returned (.tuple #[.int .i64 a', .int .i64 b']) := by rw [h1, h2]

set_option maxRecDepth 100000 in
theorem number_any (o a b c i n k : Int) (w : World) :
    Calls Tryd.prog 79 #[insV ⟨o, a, b, c, i⟩, .bool (hI o), .int .i64 n, .int .i64 k] w fun e w' => e = .returned (.int .i64 (immE o i n k)) ∧ Below w.heap.size w w' := by
  have B0 := Below.refl w.heap.size w
  have B1 : ∀ ob, Below w.heap.size w (w.alloc ob) := fun ob => B0.alloc (Nat.le_refl _) ob
  unfold insV
  by_cases hi : hI o = true
  · rw [hi]
    have e0 : immE o i n k = (if o = 22 ∨ o = 23 then (if 0 ≤ i ∧ i ≤ n then 0 else 12) else if o = 29 ∨ o = 30 then (if 0 ≤ i ∧ i < k then 0 else 13) else 0) := by simp [immE, hi]
    rw [e0]
    clear hi e0
    by_cases h1 : o = 22 ∨ o = 23
    · rw [if_pos h1]
      by_cases h2 : i < 0
      · rw [if_neg (by omega)]
        rcases h1 with rfl | rfl
        · go_enter Tryd.func79, Tryd.ntmps79
          go_wp2
          go_ret
          exact ⟨rfl, B1 _⟩
        · go_enter Tryd.func79, Tryd.ntmps79
          go_wp2
          go_ret
          exact ⟨rfl, B1 _⟩
      · have d2 : decide (i < 0) = false := by simpa using h2
        by_cases h3 : n < i
        · rw [if_neg (by omega)]
          rcases h1 with rfl | rfl
          · go_enter Tryd.func79, Tryd.ntmps79
            go_wp2
            go_ret
            exact ⟨rfl, B1 _⟩
          · go_enter Tryd.func79, Tryd.ntmps79
            go_wp2
            go_ret
            exact ⟨rfl, B1 _⟩
        · have d3 : decide (n < i) = false := by simpa using h3
          rw [if_pos (by omega)]
          rcases h1 with rfl | rfl
          · go_enter Tryd.func79, Tryd.ntmps79
            go_wp2
            go_ret
            exact ⟨rfl, B1 _⟩
          · go_enter Tryd.func79, Tryd.ntmps79
            go_wp2
            go_ret
            exact ⟨rfl, B1 _⟩
    · rw [if_neg h1]
      have t1 : (o == 22) = false := by simp; omega
      have t2 : (o == 23) = false := by simp; omega
      clear h1
      by_cases h1 : o = 29 ∨ o = 30
      · rw [if_pos h1]
        clear t1 t2
        by_cases h2 : i < 0
        · rw [if_neg (by omega)]
          rcases h1 with rfl | rfl
          · go_enter Tryd.func79, Tryd.ntmps79
            go_wp2
            go_ret
            exact ⟨rfl, B1 _⟩
          · go_enter Tryd.func79, Tryd.ntmps79
            go_wp2
            go_ret
            exact ⟨rfl, B1 _⟩
        · have d2 : decide (i < 0) = false := by simpa using h2
          by_cases h3 : k ≤ i
          · rw [if_neg (by omega)]
            rcases h1 with rfl | rfl
            · go_enter Tryd.func79, Tryd.ntmps79
              go_wp2
              go_ret
              exact ⟨rfl, B1 _⟩
            · go_enter Tryd.func79, Tryd.ntmps79
              go_wp2
              go_ret
              exact ⟨rfl, B1 _⟩
          · have d3 : decide (k ≤ i) = false := by simpa using h3
            rw [if_pos (by omega)]
            rcases h1 with rfl | rfl
            · go_enter Tryd.func79, Tryd.ntmps79
              go_wp2
              go_ret
              exact ⟨rfl, B1 _⟩
            · go_enter Tryd.func79, Tryd.ntmps79
              go_wp2
              go_ret
              exact ⟨rfl, B1 _⟩
      · rw [if_neg h1]
        have t3 : (o == 29) = false := by simp; omega
        have t4 : (o == 30) = false := by simp; omega
        clear h1
        go_enter Tryd.func79, Tryd.ntmps79
        go_wp2
        go_ret
        exact ⟨rfl, B1 _⟩
  · have hu := unused_any i
    have hf : hI o = false := by simpa using hi
    have e0 : immE o i n k = if i = 0 then 0 else 11 := by simp [immE, hf]
    rw [hf, e0]
    obtain ⟨E, hE⟩ : ∃ E : Int, (if i = 0 then 0 else 11) = E := ⟨_, rfl⟩
    rw [hE] at hu ⊢
    clear hE e0 hi hf
    go_enter Tryd.func79, Tryd.ntmps79
    go_wp2_with (go_at_call 81; refine (hu _).mono ?_; rintro e w1 ⟨rfl, rfl⟩)
    go_ret
    exact ⟨rfl, B1 _⟩
end Go.Proofs.YtmjokinagbpihaaDoor
