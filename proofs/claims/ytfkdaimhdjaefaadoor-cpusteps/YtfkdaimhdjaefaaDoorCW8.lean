/- Programs in memory as rows. -/
import Derived.Test.YtfkdaimhdjaefaaDoorCW6
import Derived.Maps.AppendAt
import Derived.Laws.OwnMore
namespace Go.Proofs.YtfkdaimhdjaefaaDoor
open Go.RowKit

def insCells (x : Ins) : List Value := [.int .i64 x.op, .int .i64 x.a, .int .i64 x.b, .int .i64 x.c, .int .i64 x.imm]
def pCells (l : List Ins) : List Value := l.flatMap insCells
theorem insCells_len (x : Ins) : (insCells x).length = 5 := rfl
theorem pCells_len (l : List Ins) : (pCells l).length = l.length * 5 := by
  induction l with
  | nil => rfl
  | cons x r ih => simp only [pCells, List.flatMap_cons, List.length_append, insCells_len, List.length_cons] at *; omega
theorem pCells_snoc (l : List Ins) (x : Ins) : pCells (l ++ [x]) = pCells l ++ insCells x := by simp [pCells]
theorem pCells_at : ∀ (l : List Ins) (i r : Nat), i < l.length → r < 5 → (pCells l)[i * 5 + r]? = (insCells (l.getD i default))[r]?
  | [], i, _, h, _ => absurd h (Nat.not_lt_zero i)
  | x :: l, 0, r, _, hr => by
    simp only [pCells, List.flatMap_cons, Nat.zero_mul, Nat.zero_add, List.getD_cons_zero]
    rw [List.getElem?_append_left (by rw [insCells_len]; exact hr)]
  | x :: l, i + 1, r, h, hr => by
    have ih := pCells_at l i r (by simpa using h) hr
    simp only [pCells, List.flatMap_cons, List.getD_cons_succ] at *
    rw [List.getElem?_append_right (by rw [insCells_len]; omega), insCells_len, show (i + 1) * 5 + r - 5 = i * 5 + r by omega]
    exact ih

theorem prg_of_owns {w : World} {B n cap g : Nat} {l : List Ins} (h : w.ownsRow B 28 5 (.slice (some ⟨g, 0, none⟩) n cap) n (pCells l)) : Prg w (some ⟨g, 0, none⟩) l ∧ l.length = n := by
  have hlen : l.length = n := by have := h.1; rw [pCells_len] at this; omega
  refine ⟨fun i hi => ⟨g, 0, rfl, ?_⟩, hlen⟩
  have key : ∀ r, r < 5 → w.cell? ⟨g, 0 + i * 5 + r, none⟩ = (insCells (l.getD i default))[r]? := fun r hr => by
    rw [h.cellAt (0 + i * 5 + r) (by omega), Nat.zero_add, pCells_at l i r hi hr]
  exact ⟨key 0 (by omega), key 1 (by omega), key 2 (by omega), key 3 (by omega), key 4 (by omega)⟩

theorem owns_grown {w w' : World} {gx : Option Nat} {B n s : Nat} {e : TypeId} {v : Value} {xs : List Value} (h : w.ownsRow B e s v n xs) (hg : w.grownBy w' gx) (hne : ∀ b, v.ownBlock = some b → some b ≠ gx) : w'.ownsRow B e s v n xs := by
  obtain ⟨h1, h2⟩ := h
  refine ⟨h1, ?_⟩
  rcases h2 with h2 | ⟨g, cap, cur, rfl, h3, h4, h5⟩
  · exact .inl h2
  · refine .inr ⟨g, cap, cur, rfl, h3, ?_, h5⟩
    rw [hg.block g (by
      rcases Nat.lt_or_ge g w.heap.size with hx | hx
      · exact hx
      · rw [Array.getElem?_eq_none hx] at h4; cases h4) (hne g rfl)]
    exact h4

theorem owns_below {w w' : World} {B n s : Nat} {e : TypeId} {v : Value} {xs : List Value} (h : w.ownsRow B e s v n xs) (hb : Below w.heap.size w w') : w'.ownsRow B e s v n xs :=
  owns_grown (gx := none) h ⟨hb.os, hb.tape, hb.output, hb.size, fun k hk _ => hb.block k hk⟩ (fun b _ => by simp)

theorem drewN_add (w : World) (a b : Nat) : (w.drewN a).drewN b = w.drewN (a + b) := by simp [World.drewN, Nat.add_assoc]

end Go.Proofs.YtfkdaimhdjaefaaDoor
