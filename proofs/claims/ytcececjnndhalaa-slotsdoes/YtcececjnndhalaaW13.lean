/- A row of the call's own that is written over; the law's 'made'. -/
import Derived.Test.YtcececjnndhalaaW11
import Derived.Laws.CopyOwn
import Derived.Laws.OwnMore
import Derived.Laws.MakeOwn
namespace Go.Proofs.Ytcececjnndhalaa
open Go.RowKit

/-- Ints by their places, as cells. -/
def gCells (G : Nat → Int) (n : Nat) : List Value := (List.range n).map fun j => .int .i64 (G j)
theorem gCells_len (G : Nat → Int) (n : Nat) : (gCells G n).length = n := by simp [gCells]
theorem gCells_at (G : Nat → Int) (n j : Nat) (h : j < n) : (gCells G n)[j]? = some (.int .i64 (G j)) := by simp [gCells, h]
theorem gCells_set (G : Nat → Int) (n i : Nat) (x : Int) : (gCells G n).set i (.int .i64 x) = gCells (fun j => if j = i then x else G j) n := by
  apply List.ext_getElem?
  intro j
  rw [List.getElem?_set]
  by_cases hj : j < n
  · rw [gCells_at _ n j hj, gCells_at _ n j hj, gCells_len]
    by_cases e : i = j
    · subst e; simp [hj]
    · rw [if_neg e, if_neg (by omega)]
  · have h1 : (gCells G n)[j]? = none := List.getElem?_eq_none (by rw [gCells_len]; omega)
    have h2 : (gCells (fun j => if j = i then x else G j) n)[j]? = none := List.getElem?_eq_none (by rw [gCells_len]; omega)
    rw [h1, h2, gCells_len]
    by_cases e : i = j
    · rw [if_pos e, if_neg (by omega)]
    · rw [if_neg e]

/-- The row at the block g holds G; but for it w' is w. -/
structure Own (w : World) (g n : Nat) (G : Nat → Int) (w' : World) : Prop where
  own : w'.ownsRow 0 3 1 (.slice (some ⟨g, 0, none⟩) n n) n (gCells G n)
  grown : w.grownBy w' (some g)

theorem grownBy_trans {a b c : World} {r : Option Nat} (h : a.grownBy b r) (k : b.grownBy c r) : a.grownBy c r :=
  ⟨k.os.trans h.os, k.tape.trans h.tape, k.output.trans h.output, Nat.le_trans h.size k.size, fun i hi hr => (k.block i (Nat.lt_of_lt_of_le hi h.size) hr).trans (h.block i hi hr)⟩
theorem grownBy_drewN (w : World) (q : Nat) (r : Option Nat) : w.grownBy (w.drewN q) r := ⟨rfl, rfl, rfl, Nat.le_refl _, fun _ _ _ => rfl⟩
theorem grownBy_below {B : Nat} {a b c : World} {g : Nat} (h : Below B a b) (k : b.grownBy c (some g)) (hg : B ≤ g) (hs : B ≤ b.heap.size) : Below B a c := by
  refine h.grown k hs (fun k hk => ?_)
  cases hk; exact hg

theorem Own.cell {w w' : World} {g n : Nat} {G : Nat → Int} (h : Own w g n G w') (t : Nat) (ht : t < n) : w'.cell? ⟨g, t, none⟩ = some (.int .i64 (G t)) := by
  rw [h.own.cellAt t (by omega), gCells_at G n t ht]
theorem Own.free {w w' : World} {g n : Nat} {G : Nat → Int} (h : Own w g n G w') (t : Nat) : w'.frozen? ⟨g, t, none⟩ = false := h.own.frozenAt t
theorem Own.put {w w' : World} {g n : Nat} {G : Nat → Int} (h : Own w g n G w') (i : Nat) (x : Int) : Own w g n (fun j => if j = i then x else G j) (w'.setCell ⟨g, i, none⟩ (.int .i64 x)) := by
  have h1 := h.own.stored i (.int .i64 x)
  refine ⟨?_, grownBy_trans h.grown h1.2⟩
  rw [← gCells_set]
  exact h1.1
theorem Own.drewN {w w' : World} {g n : Nat} {G : Nat → Int} (h : Own w g n G w') (q : Nat) : Own w g n G (w'.drewN q) := ⟨h.own, grownBy_trans h.grown (grownBy_drewN _ _ _)⟩
theorem Own.lt {w w' : World} {g n : Nat} {G : Nat → Int} (h : Own w g n G w') : g < w'.heap.size := (h.own.lt g rfl).2

/-- After calls that only make new memory the row is the same. -/
theorem Own.after {w w' w'' : World} {g n : Nat} {G : Nat → Int} (h : Own w g n G w') (hb : Below w'.heap.size w' w'') : Own w'' g n G w'' := by
  have e := hb.block g h.lt
  refine ⟨?_, World.grownBy.refl _ _⟩
  obtain ⟨h1, h2⟩ := h.own
  refine ⟨h1, ?_⟩
  rcases h2 with ⟨h2, _⟩ | ⟨g', cap', cur, h2, h3, h4, h5⟩
  · simp at h2
  · refine .inr ⟨g', cap', cur, h2, h3, ?_, h5⟩
    simp only [Value.slice.injEq, Option.some.injEq, Addr.mk.injEq, and_true, true_and] at h2
    obtain ⟨rfl, rfl⟩ := h2
    rw [e]
    exact h4

theorem sl_grown {w w' : World} {g sb lb cap : Nat} {l : List Int} (h : Sl w sb lb cap l) (hg : w.grownBy w' (some g)) (h1 : sb ≠ g) (h2 : lb ≠ g) : Sl w' sb lb cap l where
  c0 := hg.cell h.c0 (by simpa using h1)
  ent := fun i hi => hg.cell (h.ent i hi) (by simpa using h2)
  len := h.len
  cap := h.cap
  pos := h.pos
  wf := h.wf

/-- What the copy leaves in the row. -/
theorem made_row (l : List Int) : splice (madeCells (Value.int .i64 0).cells ((l.length + 3) * 1)).toList 0 (iCells l) = gCells (fun j => if j < l.length then l.getD j 0 else 0) (l.length + 3) := by
  have hm : (madeCells (Value.int .i64 0).cells ((l.length + 3) * 1)).toList = (List.range (l.length + 3)).map fun _ => Value.int .i64 0 := by
    simp [madeCells, Value.cells, List.range_eq_range', Array.toList_map, Nat.mod_one]
  rw [hm]
  apply List.ext_getElem?
  intro j
  simp only [splice, List.take_zero, List.nil_append, Nat.zero_add]
  by_cases hj : j < l.length
  · rw [List.getElem?_append_left (by rw [iCells_len]; exact hj), iCells_at l j hj, gCells_at _ _ _ (by omega), if_pos hj]
  · rw [List.getElem?_append_right (by rw [iCells_len]; omega), iCells_len, List.getElem?_drop, show l.length + (j - l.length) = j by omega]
    by_cases h3 : j < l.length + 3
    · rw [gCells_at _ _ _ h3, if_neg hj]
      simp [h3]
    · rw [List.getElem?_eq_none (by simp; omega), List.getElem?_eq_none (by rw [gCells_len]; omega)]

theorem own_of_heap {w : World} {g n : Nat} {G : Nat → Int} (hm : n ≤ maxLen) (h : w.heap[g]? = some (.cells (gCells G n).toArray 3 (0, 0))) : Own w g n G w :=
  ⟨⟨by rw [gCells_len]; omega, .inr ⟨g, n, (gCells G n).toArray, rfl, Nat.zero_le _, h, Nat.le_refl _, hm, by simp [gCells_len], List.take_of_length_le (by simp [gCells_len])⟩⟩, World.grownBy.refl _ _⟩

theorem cells_own {w w' : World} {g n : Nat} {G : Nat → Int} {l : List Int} (h : Own w g n G w') (hn : l.length ≤ n) (hG : ∀ j, j < l.length → G j = l.getD j 0) : Cells w' (some ⟨g, 0, none⟩) (iCells l) := fun _ => ⟨g, 0, rfl, fun i u hu => by
  have hi : i < l.length := by
    rcases Nat.lt_or_ge i l.length with h | h
    · exact h
    · rw [List.getElem?_eq_none (by rw [iCells_len]; exact h)] at hu; cases hu
  rw [iCells_at l i hi] at hu
  cases hu
  rw [Nat.zero_add, h.cell i (by omega), hG i hi]⟩

end Go.Proofs.Ytcececjnndhalaa
