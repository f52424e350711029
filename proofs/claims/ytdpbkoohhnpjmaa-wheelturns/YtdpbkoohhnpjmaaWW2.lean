/- compare: which of two things is due first. -/
import Derived.Test.YtdpbkoohhnpjmaaWW1
namespace Go.Proofs.Ytdpbkoohhnpjmaa
open Go.RowKit

def cmpI (a b : Int) : Int := if a < b then -1 else if b < a then 1 else 0
/-- What compare tells. -/
def cfT (x y : Th) : Int := if cmpI x.1 y.1 = 0 then cmpI x.2 y.2 else cmpI x.1 y.1
theorem cfT_lt (x y : Th) : decide (cfT x y < 0) = decide (ltT x y) := by
  unfold cfT cmpI ltT
  by_cases h1 : x.1 < y.1
  · simp [h1]
  · by_cases h2 : y.1 < x.1
    · simp [h1, h2]
      omega
    · have e : x.1 = y.1 := by omega
      simp only [e]
      by_cases h3 : x.2 < y.2
      · simp [h3]
      · by_cases h4 : y.2 < x.2 <;> simp [h3, h4]

theorem isNaNI_any (x : Int) (w : World) : Calls Try.prog 43 #[.int .i64 x] w fun e w' => e = .returned (.bool false) ∧ w' = w := by
  go_enter Try.func43, Try.ntmps43
  go_wp2
  go_ret
  exact ⟨rfl, rfl⟩
theorem isNaN_any (x : Int) (w : World) : Calls Try.prog 44 #[.int .i64 x] w fun e w' => e = .returned (.bool false) ∧ w' = w := by
  go_enter Try.func44, Try.ntmps44
  go_wp2
  go_ret
  exact ⟨rfl, rfl⟩

theorem compareI_any (x y : Int) (w : World) : Calls Try.prog 37 #[.int .i64 x, .int .i64 y] w fun e w' => e = .returned (.int .i64 (cmpI x y)) ∧ w' = w := by
  have hx := isNaNI_any x w
  have hy := isNaNI_any y w
  unfold cmpI
  by_cases h1 : x < y
  · rw [if_pos h1]
    go_enter Try.func37, Try.ntmps37
    go_wp2_with (first | (go_at_call 43; refine hx.mono ?_; rintro e1 w1 ⟨rfl, rfl⟩) | (go_at_call 43; refine hy.mono ?_; rintro e1 w1 ⟨rfl, rfl⟩))
    go_ret
    exact ⟨rfl, rfl⟩
  · rw [if_neg h1]
    by_cases h2 : y < x
    · rw [if_pos h2]
      have h1' : decide (x < y) = false := by simpa using h1
      clear h1
      go_enter Try.func37, Try.ntmps37
      go_wp2_with (first | (go_at_call 43; refine hx.mono ?_; rintro e1 w1 ⟨rfl, rfl⟩) | (go_at_call 43; refine hy.mono ?_; rintro e1 w1 ⟨rfl, rfl⟩))
      go_ret
      exact ⟨rfl, rfl⟩
    · rw [if_neg h2]
      have h1' : decide (x < y) = false := by simpa using h1
      have h2' : decide (y < x) = false := by simpa using h2
      clear h1 h2
      go_enter Try.func37, Try.ntmps37
      go_wp2_with (first | (go_at_call 43; refine hx.mono ?_; rintro e1 w1 ⟨rfl, rfl⟩) | (go_at_call 43; refine hy.mono ?_; rintro e1 w1 ⟨rfl, rfl⟩))
      go_ret
      exact ⟨rfl, rfl⟩
theorem compareN_any (x y : Int) (w : World) : Calls Try.prog 38 #[.int .i64 x, .int .i64 y] w fun e w' => e = .returned (.int .i64 (cmpI x y)) ∧ w' = w := by
  have hx := isNaN_any x w
  have hy := isNaN_any y w
  unfold cmpI
  by_cases h1 : x < y
  · rw [if_pos h1]
    go_enter Try.func38, Try.ntmps38
    go_wp2_with (first | (go_at_call 44; refine hx.mono ?_; rintro e1 w1 ⟨rfl, rfl⟩) | (go_at_call 44; refine hy.mono ?_; rintro e1 w1 ⟨rfl, rfl⟩))
    go_ret
    exact ⟨rfl, rfl⟩
  · rw [if_neg h1]
    by_cases h2 : y < x
    · rw [if_pos h2]
      have h1' : decide (x < y) = false := by simpa using h1
      clear h1
      go_enter Try.func38, Try.ntmps38
      go_wp2_with (first | (go_at_call 44; refine hx.mono ?_; rintro e1 w1 ⟨rfl, rfl⟩) | (go_at_call 44; refine hy.mono ?_; rintro e1 w1 ⟨rfl, rfl⟩))
      go_ret
      exact ⟨rfl, rfl⟩
    · rw [if_neg h2]
      have h1' : decide (x < y) = false := by simpa using h1
      have h2' : decide (y < x) = false := by simpa using h2
      clear h1 h2
      go_enter Try.func38, Try.ntmps38
      go_wp2_with (first | (go_at_call 44; refine hx.mono ?_; rintro e1 w1 ⟨rfl, rfl⟩) | (go_at_call 44; refine hy.mono ?_; rintro e1 w1 ⟨rfl, rfl⟩))
      go_ret
      exact ⟨rfl, rfl⟩

/-- cmp.Or of two. -/
theorem or_any (x y : Int) (g : Nat) (w : World) (h0 : w.cell? ⟨g, 0, none⟩ = some (.int .i64 x)) (h1 : w.cell? ⟨g, 1, none⟩ = some (.int .i64 y)) :
    Calls Try.prog 36 #[.slice (some ⟨g, 0, none⟩) 2 2] w fun e w' => e = .returned (.int .i64 (if x = 0 then y else x)) ∧ w' = w := by
  obtain ⟨R, hR⟩ : ∃ R, Hid ((if x = 0 then y else x) = R) := ⟨_, rfl⟩
  rw [hR.out]
  go_enter Try.func36, Try.ntmps36
  go_wp2
  go_loopg [5, 8] 2 (fun k v5 v8 wr => ∃ i : Nat, v8 = .int .i64 i ∧ i + k = 2 ∧ wr = w ∧ Hid (R = if i = 0 then (if x = 0 then y else x) else if i = 1 then y else 0))
  case atStart => exact ⟨0, rfl, rfl, rfl, hd (by rw [hR.out]; rfl)⟩
  case round =>
    obtain ⟨i, rfl, hik, rfl, HE⟩ := hrel
    clear hR
    by_cases hi0 : i = 0
    · subst hi0
      by_cases hx : x = 0
      · have hx' : (x == 0) = true := by simp [hx]
        have HE' : Hid (R = y) := hd (by rw [HE.out, hx]; rfl)
        clear hx HE
        go_wp2
        go_roundg (gk - 1)
        case measure => omega
        case rel => exact ⟨1, rfl, by omega, rfl, hd (by rw [HE'.out]; rfl)⟩
      · have hx' : (x == 0) = false := by simpa using hx
        obtain rfl : R = x := by rw [HE.out]; simp [hx]
        clear hx HE
        go_wp2
        go_ret
        exact ⟨rfl, rfl⟩
    · by_cases hi1 : i = 1
      · subst hi1
        by_cases hy : y = 0
        · have hy' : (y == 0) = true := by simp [hy]
          have HE' : Hid (R = 0) := hd (by rw [HE.out, hy]; rfl)
          clear hy HE hi0
          go_wp2
          go_roundg (gk - 1)
          case measure => omega
          case rel => exact ⟨2, rfl, by omega, rfl, hd (by rw [HE'.out]; rfl)⟩
        · have hy' : (y == 0) = false := by simpa using hy
          obtain rfl : R = y := by rw [HE.out]; simp
          clear hy HE hi0
          go_wp2
          go_ret
          exact ⟨rfl, rfl⟩
      · obtain rfl : i = 2 := by omega
        obtain rfl : R = 0 := by rw [HE.out]; rfl
        clear HE hi0 hi1
        go_wp2
        go_ret
        exact ⟨rfl, rfl⟩
end Go.Proofs.Ytdpbkoohhnpjmaa
