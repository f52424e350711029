/- CpuNames; what a step changes. -/
import Derived.Test.YtfkdaimhdjaefaaDoorUL
namespace Go.Proofs.YtfkdaimhdjaefaaDoor
open Go.RowKit

set_option maxRecDepth 100000 in
theorem cpuNames_walk (w : World) (hF : Fld w) :
    Calls Tryd.prog 3 #[] w fun e w' => e = .returned (.bool true) ∧ Below w.heap.size w w' := by
  have h := awake_any w hF
  clear hF
  go_enter Tryd.func3, Tryd.ntmps3
  go_wp2_with (go_at_call 6; refine h.mono ?_; rintro e w1 ⟨rfl, b1⟩)
  go_ret
  exact ⟨rfl, b1⟩

/-- A step that wants something changes no register, and goes on by one at most. -/
theorem step_wants (c : Core) (l : List Ins) (tick self : Int) (h : (stepL c l tick self).2.1 ≠ 0) :
    (stepL c l tick self).1.r = c.r ∧ ((stepL c l tick self).1.pc = c.pc ∨ (stepL c l tick self).1.pc = wrap64 (c.pc + 1)) := by
  unfold stepL at *
  split
  · next h1 =>
    rw [if_pos h1] at h
    split
    · next h2 =>
      rw [if_pos h2] at h
      unfold stepI at *
      simp only at h
      rw [if_neg h]
      simp only
      split
      · exact ⟨rfl, .inr rfl⟩
      · exact ⟨rfl, .inl rfl⟩
    · exact ⟨rfl, .inl rfl⟩
  · exact ⟨rfl, .inl rfl⟩

/-- A step that wants nothing: one register at most, and on by one; or a jump. -/
theorem step_plain (c : Core) (l : List Ins) (tick self : Int) (h : (stepL c l tick self).2.1 = 0) :
    (0 ≤ c.pc ∧ c.pc < l.length) ∧ (((∃ a, ∀ j, j ≠ a → (stepL c l tick self).1.r j = c.r j) ∧ (stepL c l tick self).1.pc = wrap64 (c.pc + 1)) ∨
      ((stepL c l tick self).1.r = c.r ∧ ((l.getD c.pc.toNat default).op = 22 ∨ (l.getD c.pc.toNat default).op = 23) ∧ (stepL c l tick self).1.pc = (l.getD c.pc.toNat default).imm)) := by
  have h1 : 0 ≤ c.pc ∧ c.pc < l.length := by
    by_cases h1 : 0 ≤ c.pc ∧ c.pc < l.length
    · exact h1
    · unfold stepL at h; rw [if_neg h1] at h; simp at h
  refine ⟨h1, ?_⟩
  unfold stepL at *
  rw [if_pos h1] at h ⊢
  generalize l.getD c.pc.toNat default = x at *
  by_cases h2 : (wrong x l.length 8).1 = 0
  · rw [if_pos h2] at h ⊢
    unfold stepI at *
    simp only at h
    rw [if_pos h]
    simp only
    unfold doL
    have key : ∀ (a : Nat) (v : Int), (∃ b, ∀ j, j ≠ b → (c.set a v).next.r j = c.r j) ∧ (c.set a v).next.pc = wrap64 (c.pc + 1) := fun a v => ⟨⟨a, fun j hj => by simp [Core.next, Core.set, hj]⟩, rfl⟩
    by_cases o1 : x.op = 1
    · rw [if_pos o1]; exact .inl (key _ _)
    rw [if_neg o1]
    by_cases o2 : x.op = 2
    · rw [if_pos o2]; exact .inl (key _ _)
    rw [if_neg o2]
    by_cases o3 : x.op = 22
    · rw [if_pos o3]; exact .inr ⟨rfl, .inl o3, rfl⟩
    rw [if_neg o3]
    by_cases o4 : x.op = 23
    · rw [if_pos o4]
      split
      · exact .inl ⟨⟨0, fun j _ => rfl⟩, rfl⟩
      · exact .inr ⟨rfl, .inr o4, rfl⟩
    rw [if_neg o4]
    by_cases o5 : x.op = 32
    · rw [if_pos o5]; exact .inl (key _ _)
    rw [if_neg o5]
    by_cases o6 : x.op = 33
    · rw [if_pos o6]; exact .inl (key _ _)
    rw [if_neg o6]
    exact .inl (key _ _)
  · rw [if_neg h2] at h
    simp at h

/-- How many of the first so many registers differ. -/
def dif (c d : Core) : Nat → Nat
  | 0 => 0
  | j + 1 => dif c d j + (if c.r j = d.r j then 0 else 1)
theorem dif_none {c d : Core} (h : d.r = c.r) (n : Nat) : dif c d n = 0 := by
  induction n with
  | zero => rfl
  | succ n ih => simp [dif, ih, h]
theorem dif_one {c d : Core} {a : Nat} (h : ∀ j, j ≠ a → d.r j = c.r j) (n : Nat) : dif c d n ≤ (if a < n then 1 else 0) := by
  induction n with
  | zero => simp [dif]
  | succ n ih =>
    rw [dif]
    by_cases hn : n = a
    · subst hn
      simp at ih
      split <;> simp [ih] <;> split <;> omega
    · rw [if_pos (h n hn).symm]
      split at ih <;> split <;> omega
theorem dif_le (c d : Core) (n : Nat) : dif c d n ≤ n := by
  induction n with
  | zero => simp [dif]
  | succ n ih => rw [dif]; split <;> omega
end Go.Proofs.YtfkdaimhdjaefaaDoor
