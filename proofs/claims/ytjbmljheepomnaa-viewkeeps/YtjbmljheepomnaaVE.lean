/- Elements held against each other. -/
import Derived.Test.YtjbmljheepomnaaV0
namespace Go.Proofs.Ytjbmljheepomnaa
open Go.RowKit

theorem beq_dec (x y : Int) : (x == y) = dec (x = y) := by
  by_cases h : x = y
  · rw [dec_yes h]; simpa using h
  · rw [dec_no h]; simpa using h
theorem equal_int (x y : Int) (w : World) : Calls Try.prog 38 #[.int .i64 x, .int .i64 y] w fun e w' => e = .returned (.bool (dec (x = y))) ∧ Below w.heap.size w w' := by
  go_enter Try.func38, Try.ntmps38
  go_wp2
  go_ret
  exact ⟨ret_bool (beq_dec x y), Below.refl _ _⟩
theorem equal_i64 (x y : Int) (w : World) : Calls Try.prog 45 #[.int .i64 x, .int .i64 y] w fun e w' => e = .returned (.bool (dec (x = y))) ∧ Below w.heap.size w w' := by
  go_enter Try.func45, Try.ntmps45
  go_wp2
  go_ret
  exact ⟨ret_bool (beq_dec x y), Below.refl _ _⟩
set_option maxRecDepth 100000 in
theorem equal_wai (x y : Int × Int) (w : World) : Calls Try.prog 47 #[.agg #[.int .i64 x.1, .int .i64 x.2], .agg #[.int .i64 y.1, .int .i64 y.2]] w fun e w' => e = .returned (.bool (dec (x = y))) ∧ Below w.heap.size w w' := by
  obtain ⟨x1, x2⟩ := x
  obtain ⟨y1, y2⟩ := y
  have hB : ∀ o1 o2, Below w.heap.size w ((w.alloc o1).alloc o2) := fun o1 o2 => (below_al w o1).alloc (by simp) o2
  have HB := hd hB
  obtain ⟨R, hR⟩ : ∃ R, Hid (dec ((x1, x2) = (y1, y2)) = R) := ⟨_, rfl⟩
  rw [hR.out]
  clear hB
  by_cases h1 : x1 = y1
  · subst h1
    by_cases h2 : x2 = y2
    · subst h2
      obtain rfl : R = true := hR.out.symm.trans (dec_yes rfl)
      go_enter Try.func47, Try.ntmps47
      go_wp2_with fail
      go_ret
      exact ⟨rfl, HB.out _ _⟩
    · obtain rfl : R = false := hR.out.symm.trans (dec_no (by simp [h2]))
      have g2 : (x2 == y2) = false := by simpa using h2
      clear hR
      go_enter Try.func47, Try.ntmps47
      go_wp2_with fail
      go_ret
      exact ⟨rfl, HB.out _ _⟩
  · obtain rfl : R = false := hR.out.symm.trans (dec_no (by simp [h1]))
    have g1 : (x1 == y1) = false := by simpa using h1
    clear hR
    go_enter Try.func47, Try.ntmps47
    go_wp2_with fail
    go_ret
    exact ⟨rfl, HB.out _ _⟩
set_option maxRecDepth 100000 in
theorem equal_ent (x y : Int × Int × Int) (w : World) : Calls Try.prog 36 #[.agg #[.int .i64 x.1, .int .i64 x.2.1, .int .i64 x.2.2], .agg #[.int .i64 y.1, .int .i64 y.2.1, .int .i64 y.2.2]] w fun e w' => e = .returned (.bool (dec (x = y))) ∧ Below w.heap.size w w' := by
  obtain ⟨x1, x2, x3⟩ := x
  obtain ⟨y1, y2, y3⟩ := y
  have hB : ∀ o1 o2, Below w.heap.size w ((w.alloc o1).alloc o2) := fun o1 o2 => (below_al w o1).alloc (by simp) o2
  have HB := hd hB
  obtain ⟨R, hR⟩ : ∃ R, Hid (dec ((x1, x2, x3) = (y1, y2, y3)) = R) := ⟨_, rfl⟩
  rw [hR.out]
  clear hB
  by_cases h1 : x1 = y1
  · subst h1
    by_cases h2 : x2 = y2
    · subst h2
      by_cases h3 : x3 = y3
      · subst h3
        obtain rfl : R = true := hR.out.symm.trans (dec_yes rfl)
        go_enter Try.func36, Try.ntmps36
        go_wp2_with fail
        go_ret
        exact ⟨rfl, HB.out _ _⟩
      · obtain rfl : R = false := hR.out.symm.trans (dec_no (by simp [h3]))
        have g3 : (x3 == y3) = false := by simpa using h3
        clear hR
        go_enter Try.func36, Try.ntmps36
        go_wp2_with fail
        go_ret
        exact ⟨rfl, HB.out _ _⟩
    · obtain rfl : R = false := hR.out.symm.trans (dec_no (by simp [h2]))
      have g2 : (x2 == y2) = false := by simpa using h2
      clear hR
      go_enter Try.func36, Try.ntmps36
      go_wp2_with fail
      go_ret
      exact ⟨rfl, HB.out _ _⟩
  · obtain rfl : R = false := hR.out.symm.trans (dec_no (by simp [h1]))
    have g1 : (x1 == y1) = false := by simpa using h1
    clear hR
    go_enter Try.func36, Try.ntmps36
    go_wp2_with fail
    go_ret
    exact ⟨rfl, HB.out _ _⟩
end Go.Proofs.Ytjbmljheepomnaa
