/- Two programs whose answers are known. -/
import Derived.Test.YtehapcoppghppaaDoorVM4
namespace Go.Proofs.YtehapcoppghppaaDoor
open Go.RowKit

def inI (o i : Int) : Ins := ⟨o, 0, 0, 0, i⟩
def good : List Ins := [inI 29 0, inI 29 1, inI 30 1, inI 30 0, inI 0 0]
def bad : List Ins := [inI 29 1, inI 29 0]

theorem good_may : mayL good 2 = (0, 0) := by decide
theorem bad_may : mayL bad 2 = (0, 0) := by decide

theorem good_rch {n : Nat} (h : Rch good n) : n = 0 ∨ n = 257 ∨ n = 515 ∨ n = 769 ∨ n = 1024 := by
  induction h with
  | zero => exact .inl rfl
  | step _ ht ih =>
    rcases ih with rfl | rfl | rfl | rfl | rfl
    · rw [show nxt good 0 = [257] by decide, List.mem_singleton] at ht; omega
    · rw [show nxt good 257 = [515] by decide, List.mem_singleton] at ht; omega
    · rw [show nxt good 515 = [769] by decide, List.mem_singleton] at ht; omega
    · rw [show nxt good 769 = [1024] by decide, List.mem_singleton] at ht; omega
    · rw [show nxt good 1024 = [] by decide] at ht; cases ht

theorem good_right : ∀ n, Rch good n → wrE good n = 0 := fun n h => by
  rcases good_rch h with rfl | rfl | rfl | rfl | rfl <;> decide

theorem good_un : un good 257 = 3 := by
  have h1 : un good 769 = 1 := un_next (m := 0) (Int.le_refl 0) (by decide) (fun t ht => by rw [show nx good 769 = [] by decide] at ht; cases ht) (.inl rfl)
  have h2 : un good 515 = 2 := un_next (m := 1) (by decide) (by decide) (fun t ht => by
    rw [show nx good 515 = [769] by decide, List.mem_singleton] at ht
    rw [ht, h1]
    exact Int.le_refl 1) (.inr ⟨769, by rw [show nx good 515 = [769] by decide]; simp, h1⟩)
  exact un_next (m := 2) (by decide) (by decide) (fun t ht => by
    rw [show nx good 257 = [515] by decide, List.mem_singleton] at ht
    rw [ht, h2]
    exact Int.le_refl 2) (.inr ⟨515, by rw [show nx good 257 = [515] by decide]; simp, h2⟩)

theorem good_sp : spL good = [(0, 3)] := by
  have h0 : isH good 0 := ⟨rfl, .zero⟩
  have h1 : ¬ isH good 1 := fun h => by have := good_rch h.2; omega
  have h2 : ¬ isH good 2 := fun h => by have := good_rch h.2; omega
  have h3 : ¬ isH good 3 := fun h => by have := good_rch h.2; omega
  have h4 : ¬ isH good 4 := fun h => absurd h.1 (by decide)
  show ((((([] ++ spF good 0) ++ spF good 1) ++ spF good 2) ++ spF good 3) ++ spF good 4) = _
  unfold spF
  rw [if_pos h0, if_neg h1, if_neg h2, if_neg h3, if_neg h4, show st1 good 0 = 257 by decide, good_un]
  rfl

theorem good_er : erL good 2 = (0, 0) := erL_ok (by rw [good_may]) good_right
theorem good_long : longL good 2 = (3, 0, 0) := by unfold longL; rw [good_er, good_sp]; decide
theorem good_check2 : checkL good 2 2 = (15, 0) := by unfold checkL; rw [good_er, good_sp]; decide
theorem good_check3 : checkL good 2 3 = (0, 0) := by unfold checkL; rw [good_er, good_sp]; decide

theorem bad_rch {n : Nat} (h : Rch bad n) : n = 0 ∨ n = 258 := by
  induction h with
  | zero => exact .inl rfl
  | step _ ht ih =>
    rcases ih with rfl | rfl
    · rw [show nxt bad 0 = [258] by decide, List.mem_singleton] at ht; omega
    · rw [show nxt bad 258 = [] by decide] at ht; cases ht

theorem bad_w : IsW bad 14 1 := by
  refine ⟨⟨258, .step .zero (by decide), by decide, by decide⟩, by decide, fun m hm hw => ?_⟩
  rcases bad_rch hm with rfl | rfl
  · exact absurd (by decide) hw
  · decide
theorem bad_check : checkL bad 2 5 = (14, 1) := by
  unfold checkL
  rw [erL_wrong (by rw [bad_may]) bad_w]
  decide
end Go.Proofs.YtehapcoppghppaaDoor
