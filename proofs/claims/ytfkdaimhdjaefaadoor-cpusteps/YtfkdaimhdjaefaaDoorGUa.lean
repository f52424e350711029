/- Next, laid, put, and a core as the document has it. -/
import Derived.Test.YtfkdaimhdjaefaaDoorU1
namespace Go.Proofs.YtfkdaimhdjaefaaDoor
open Go.RowKit

theorem core_at (c : Core) : ∀ j, j < 8 → (coreA c)[1 + j]? = some (.int .i64 (c.r j)) := by
  intro j hj
  have h : j = 0 ∨ j = 1 ∨ j = 2 ∨ j = 3 ∨ j = 4 ∨ j = 5 ∨ j = 6 ∨ j = 7 := by omega
  rcases h with rfl | rfl | rfl | rfl | rfl | rfl | rfl | rfl <;> rfl
theorem core_put (c : Core) (v : Int) : ∀ j, j < 8 → (coreA c).setIfInBounds (1 + j) (.int .i64 v) = coreA (c.set j v) := by
  intro j hj
  have h : j = 0 ∨ j = 1 ∨ j = 2 ∨ j = 3 ∨ j = 4 ∨ j = 5 ∨ j = 6 ∨ j = 7 := by omega
  rcases h with rfl | rfl | rfl | rfl | rfl | rfl | rfl | rfl <;> rfl
theorem core_pc (c : Core) (p : Int) : (coreA c).setIfInBounds 0 (.int .i64 p) = coreA { c with pc := p } := rfl

section
variable {w w' : World} {t : TypeId} {b : Nat} {c : Core}
theorem Box.pc (h : Box w t b (coreA c)) : w.cell? ⟨b, 0, none⟩ = some (.int .i64 c.pc) := h.cell 0
theorem Box.reg (h : Box w t b (coreA c)) (j : Nat) (hj : j < 8) : w.cell? ⟨b, 1 + j, none⟩ = some (.int .i64 (c.r j)) := by rw [h.cell, core_at c j hj]
theorem Box.set (h : Box w t b (coreA c)) (j : Nat) (hj : j < 8) (v : Int) : Box (w.setCell ⟨b, 1 + j, none⟩ (.int .i64 v)) t b (coreA (c.set j v)) := by
  rw [← core_put c v j hj]
  exact h.put _ _
theorem Box.setPc (h : Box w t b (coreA c)) (p : Int) : Box (w.setCell ⟨b, 0, none⟩ (.int .i64 p)) t b (coreA { c with pc := p }) := by
  rw [← core_pc c p]
  exact h.put _ _
theorem Box.cs (h : Box w t b (coreA c)) : w.cell? ⟨b, 0, none⟩ = some (.int .i64 c.pc) ∧ w.cell? ⟨b, 1, none⟩ = some (.int .i64 (c.r 0)) ∧ w.cell? ⟨b, 2, none⟩ = some (.int .i64 (c.r 1)) ∧ w.cell? ⟨b, 3, none⟩ = some (.int .i64 (c.r 2)) ∧
    w.cell? ⟨b, 4, none⟩ = some (.int .i64 (c.r 3)) ∧ w.cell? ⟨b, 5, none⟩ = some (.int .i64 (c.r 4)) ∧ w.cell? ⟨b, 6, none⟩ = some (.int .i64 (c.r 5)) ∧ w.cell? ⟨b, 7, none⟩ = some (.int .i64 (c.r 6)) ∧ w.cell? ⟨b, 8, none⟩ = some (.int .i64 (c.r 7)) :=
  ⟨h.cell 0, h.cell 1, h.cell 2, h.cell 3, h.cell 4, h.cell 5, h.cell 6, h.cell 7, h.cell 8⟩
end

set_option maxRecDepth 100000 in
set_option maxHeartbeats 1000000 in
theorem next_any (c : Core) (w : World) :
    Calls Tryd.prog 15 #[coreV c] w fun e w' => e = .returned (coreV c.next) ∧ Below w.heap.size w w' := by
  unfold coreV coreA Core.next
  go_enter Tryd.func15, Tryd.ntmps15
  go_wp2
  refine bodyPost_ret (by simp [results, Tryd.results15, go_sem]) rfl ⟨rfl, ?_⟩
  exact ((Below.refl _ w).alloc (Nat.le_refl _) _).alloc (by simp) _

set_option maxRecDepth 100000 in
set_option maxHeartbeats 1000000 in
theorem rnext_any (c : Core) (w : World) :
    Calls Tryd.prog 16 #[coreV c] w fun e w' => e = .returned (coreV c.next) ∧ Below w.heap.size w w' := by
  unfold coreV coreA Core.next
  go_enter Tryd.func16, Tryd.ntmps16
  go_wp2
  refine bodyPost_ret (by simp [results, Tryd.results16, go_sem]) rfl ⟨rfl, ?_⟩
  exact ((Below.refl _ w).alloc (Nat.le_refl _) _).alloc (by simp) _

set_option maxRecDepth 100000 in
set_option maxHeartbeats 1000000 in
theorem ours_any (c : Core) (w : World) :
    Calls Tryd.prog 9 #[coreV c] w fun e w' => e = .returned (coreV c) ∧ Below w.heap.size w w' := by
  unfold coreV coreA
  go_enter Tryd.func9, Tryd.ntmps9
  go_wp2
  refine bodyPost_ret (by simp [results, Tryd.results9, go_sem]) rfl ⟨rfl, ?_⟩
  exact ((Below.refl _ w).alloc (Nat.le_refl _) _).alloc (by simp) _
end Go.Proofs.YtfkdaimhdjaefaaDoor

/- laid, put: a register, if there is one. -/
namespace Go.Proofs.YtfkdaimhdjaefaaDoor
open Go.RowKit

/-- A core with a number in a register, if there is such a one. -/
def Core.lay (c : Core) (r v : Int) : Core := if 0 ≤ r ∧ r < 8 then c.set r.toNat v else c

set_option maxRecDepth 100000 in
set_option maxHeartbeats 1000000 in
theorem laid_any (c : Core) (r v : Int) (w : World) :
    Calls Tryd.prog 24 #[coreV c, .int .i64 r, .int .i64 v] w fun e w' => e = .returned (coreV (c.lay r v)) ∧ Below w.heap.size w w' := by
  have hB : ∀ o1 o2 : Obj, Below w.heap.size w ((w.alloc o1).alloc o2) := fun o1 o2 => ((Below.refl _ w).alloc (Nat.le_refl _) _).alloc (by simp) _
  unfold Core.lay
  by_cases h1 : 0 ≤ r
  · by_cases h2 : r < 8
    · rw [if_pos ⟨h1, h2⟩]
      obtain ⟨V, hV⟩ : ∃ V, Hid (coreV (c.set r.toNat v) = V) := ⟨_, rfl⟩
      rw [hV.out]
      have h : r = 0 ∨ r = 1 ∨ r = 2 ∨ r = 3 ∨ r = 4 ∨ r = 5 ∨ r = 6 ∨ r = 7 := by omega
      rcases h with rfl | rfl | rfl | rfl | rfl | rfl | rfl | rfl
      all_goals
        clear h1 h2
        unfold coreV coreA
        go_enter Tryd.func24, Tryd.ntmps24
        go_wp2
        refine bodyPost_ret (v := V) (by rw [← hV.out]; simp [results, Tryd.results24, go_sem, coreV, coreA, Core.set]) rfl ⟨rfl, ?_⟩
        exact hB _ _
    · rw [if_neg (by omega)]
      have d2 : decide (r < 8) = false := decide_eq_false h2
      unfold coreV coreA
      go_enter Tryd.func24, Tryd.ntmps24
      go_wp2
      refine bodyPost_ret (by simp [results, Tryd.results24, go_sem]) rfl ⟨rfl, ?_⟩
      exact hB _ _
  · rw [if_neg (by omega)]
    have d1 : decide (0 ≤ r) = false := decide_eq_false h1
    unfold coreV coreA
    go_enter Tryd.func24, Tryd.ntmps24
    go_wp2
    refine bodyPost_ret (by simp [results, Tryd.results24, go_sem]) rfl ⟨rfl, ?_⟩
    exact hB _ _

set_option maxRecDepth 100000 in
set_option maxHeartbeats 1000000 in
theorem put_any {b : Nat} {t : TypeId} (c : Core) (r v : Int) (w : World) (h : Box w t b (coreA c)) :
    Calls Tryd.prog 23 #[.pointer (some ⟨b, 0, none⟩), .int .i64 r, .int .i64 v] w fun e w' => e = .returned (.tuple #[]) ∧ Box w' t b (coreA (c.lay r v)) ∧ Oth b w w' := by
  unfold Core.lay
  by_cases h1 : 0 ≤ r
  · by_cases h2 : r < 8
    · rw [if_pos ⟨h1, h2⟩]
      obtain ⟨j, rfl⟩ : ∃ j : Nat, r = j := ⟨r.toNat, by omega⟩
      have hj : j < 8 := by omega
      have hc := h.reg j hj
      have hf := h.fr (1 + j)
      have HS := hd (h.set j hj v)
      have HJ := hd hj
      clear h h1
      rw [Int.toNat_natCast]
      go_enter Tryd.func23, Tryd.ntmps23
      go_wp2
      exact bodyPost_end (results_none rfl _ _ _) rfl ⟨rfl, HS.out, Oth.setCell _ _ _ _⟩
    · rw [if_neg (by omega)]
      have d2 : decide (r < 8) = false := decide_eq_false h2
      have H := hd h
      clear h
      go_enter Tryd.func23, Tryd.ntmps23
      go_wp2
      exact bodyPost_end (results_none rfl _ _ _) rfl ⟨rfl, H.out, Oth.refl _ _⟩
  · rw [if_neg (by omega)]
    have d1 : decide (0 ≤ r) = false := decide_eq_false h1
    have H := hd h
    clear h
    go_enter Tryd.func23, Tryd.ntmps23
    go_wp2
    exact bodyPost_end (results_none rfl _ _ _) rfl ⟨rfl, H.out, Oth.refl _ _⟩
end Go.Proofs.YtfkdaimhdjaefaaDoor
