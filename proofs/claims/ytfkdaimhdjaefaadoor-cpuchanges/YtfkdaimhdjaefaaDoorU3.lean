/- laid, put: a register, if there is one. -/
import Derived.Test.YtfkdaimhdjaefaaDoorU2
namespace Go.Proofs.YtfkdaimhdjaefaaDoor
open Go.RowKit

/-- A core with a number in a register, if there is such a one. -/
def Core.lay (c : Core) (r v : Int) : Core := if 0 ≤ r ∧ r < 8 then c.set r.toNat v else c

set_option maxRecDepth 100000 in
set_option maxHeartbeats 1000000 in
theorem laid_any (c : Core) (r v : Int) (w : World) :
    Calls Tryd.prog 24 #[coreV c, .int .i64 r, .int .i64 v] w fun e w' => e = .returned (coreV (c.lay r v)) ∧ Below w.heap.size w w' := by
  have hB : ∀ o1 o2 : Obj, Below w.heap.size w ((w.alloc o1).alloc o2) := fun o1 o2 => ((Below.refl _ w).alloc (Nat.le_refl _) _).alloc (by simp) _
  unfold Core.lay
  by_cases h1 : 0 ≤ r
  · by_cases h2 : r < 8
    · rw [if_pos ⟨h1, h2⟩]
      obtain ⟨V, hV⟩ : ∃ V, Hid (coreV (c.set r.toNat v) = V) := ⟨_, rfl⟩
      rw [hV.out]
      have h : r = 0 ∨ r = 1 ∨ r = 2 ∨ r = 3 ∨ r = 4 ∨ r = 5 ∨ r = 6 ∨ r = 7 := by omega
      rcases h with rfl | rfl | rfl | rfl | rfl | rfl | rfl | rfl
      all_goals
        clear h1 h2
        unfold coreV coreA
        go_enter Tryd.func24, Tryd.ntmps24
        go_wp2
        refine bodyPost_ret (v := V) (by rw [← hV.out]; simp [results, Tryd.results24, go_sem, coreV, coreA, Core.set]) rfl ⟨rfl, ?_⟩
        exact hB _ _
    · rw [if_neg (by omega)]
      have d2 : decide (r < 8) = false := decide_eq_false h2
      unfold coreV coreA
      go_enter Tryd.func24, Tryd.ntmps24
      go_wp2
      refine bodyPost_ret (by simp [results, Tryd.results24, go_sem]) rfl ⟨rfl, ?_⟩
      exact hB _ _
  · rw [if_neg (by omega)]
    have d1 : decide (0 ≤ r) = false := decide_eq_false h1
    unfold coreV coreA
    go_enter Tryd.func24, Tryd.ntmps24
    go_wp2
    refine bodyPost_ret (by simp [results, Tryd.results24, go_sem]) rfl ⟨rfl, ?_⟩
    exact hB _ _

set_option maxRecDepth 100000 in
set_option maxHeartbeats 1000000 in
theorem put_any {b : Nat} {t : TypeId} (c : Core) (r v : Int) (w : World) (h : Box w t b (coreA c)) :
    Calls Tryd.prog 23 #[.pointer (some ⟨b, 0, none⟩), .int .i64 r, .int .i64 v] w fun e w' => e = .returned (.tuple #[]) ∧ Box w' t b (coreA (c.lay r v)) ∧ Oth b w w' := by
  unfold Core.lay
  by_cases h1 : 0 ≤ r
  · by_cases h2 : r < 8
    · rw [if_pos ⟨h1, h2⟩]
      obtain ⟨j, rfl⟩ : ∃ j : Nat, r = j := ⟨r.toNat, by omega⟩
      have hj : j < 8 := by omega
      have hc := h.reg j hj
      have hf := h.fr (1 + j)
      have HS := hd (h.set j hj v)
      have HJ := hd hj
      clear h h1
      rw [Int.toNat_natCast]
      go_enter Tryd.func23, Tryd.ntmps23
      go_wp2
      exact bodyPost_end (results_none rfl _ _ _) rfl ⟨rfl, HS.out, Oth.setCell _ _ _ _⟩
    · rw [if_neg (by omega)]
      have d2 : decide (r < 8) = false := decide_eq_false h2
      have H := hd h
      clear h
      go_enter Tryd.func23, Tryd.ntmps23
      go_wp2
      exact bodyPost_end (results_none rfl _ _ _) rfl ⟨rfl, H.out, Oth.refl _ _⟩
  · rw [if_neg (by omega)]
    have d1 : decide (0 ≤ r) = false := decide_eq_false h1
    have H := hd h
    clear h
    go_enter Tryd.func23, Tryd.ntmps23
    go_wp2
    exact bodyPost_end (results_none rfl _ _ _) rfl ⟨rfl, H.out, Oth.refl _ _⟩
end Go.Proofs.YtfkdaimhdjaefaaDoor
