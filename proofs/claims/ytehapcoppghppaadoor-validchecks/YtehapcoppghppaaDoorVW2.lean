/- Rows of the call's own: bools and ints by their places; stands as a row that grows and shrinks. -/
import Derived.Test.YtehapcoppghppaaDoorVW1
import Derived.Test.YtehapcoppghppaaDoorVM3
import Derived.Test.YtehapcoppghppaaDoorCW8
import Derived.OwnWalk
import Derived.Deep.AppendLies
namespace Go.Proofs.YtehapcoppghppaaDoor
open Go.RowKit

/-- Values by their places. -/
def fC (F : Nat → Value) (n : Nat) : List Value := (List.range n).map F
theorem fC_len (F : Nat → Value) (n : Nat) : (fC F n).length = n := by simp [fC]
theorem fC_at (F : Nat → Value) (n j : Nat) (h : j < n) : (fC F n)[j]? = some (F j) := by simp [fC, h]
theorem fC_set (F : Nat → Value) (n i : Nat) (x : Value) : (fC F n).set i x = fC (fun j => if j = i then x else F j) n := by
  apply List.ext_getElem?
  intro j
  rw [List.getElem?_set]
  by_cases hj : j < n
  · rw [fC_at _ n j hj, fC_at _ n j hj, fC_len]
    by_cases e : i = j
    · subst e; simp [hj]
    · rw [if_neg e, if_neg (by omega)]
  · have h1 : (fC F n)[j]? = none := List.getElem?_eq_none (by rw [fC_len]; omega)
    have h2 : (fC (fun j => if j = i then x else F j) n)[j]? = none := List.getElem?_eq_none (by rw [fC_len]; omega)
    rw [h1, h2, fC_len]
    by_cases e : i = j
    · rw [if_pos e, if_neg (by omega)]
    · rw [if_neg e]

/-- The row at the block g. -/
def Arr (w : World) (B g : Nat) (t : TypeId) (n : Nat) (F : Nat → Value) : Prop := w.ownsRow B t 1 (.slice (some ⟨g, 0, none⟩) n n) n (fC F n)

theorem Arr.cell {w : World} {B g t n : Nat} {F : Nat → Value} (h : Arr w B g t n F) (i : Nat) (hi : i < n) : w.cell? ⟨g, i, none⟩ = some (F i) := by
  rw [World.ownsRow.cellAt h i (by omega), fC_at F n i hi]
theorem Arr.free {w : World} {B g t n : Nat} {F : Nat → Value} (h : Arr w B g t n F) (i : Nat) : w.frozen? ⟨g, i, none⟩ = false := World.ownsRow.frozenAt h i
theorem Arr.put {w : World} {B g t n : Nat} {F : Nat → Value} (h : Arr w B g t n F) (i : Nat) (x : Value) : Arr (w.setCell ⟨g, i, none⟩ x) B g t n (fun j => if j = i then x else F j) ∧ w.grownBy (w.setCell ⟨g, i, none⟩ x) (some g) := by
  have h1 := World.ownsRow.stored h i x
  refine ⟨?_, h1.2⟩
  unfold Arr
  rw [← fC_set]
  exact h1.1
theorem Arr.lt {w : World} {B g t n : Nat} {F : Nat → Value} (h : Arr w B g t n F) : B ≤ g ∧ g < w.heap.size := World.ownsRow.lt h g rfl
theorem Arr.kept {w w' : World} {B g t n : Nat} {F : Nat → Value} (h : Arr w B g t n F) (hb : Below w.heap.size w w') : Arr w' B g t n F := owns_below h hb
theorem Arr.grown {w w' : World} {B g t n : Nat} {F : Nat → Value} {r : Option Nat} (h : Arr w B g t n F) (hg : w.grownBy w' r) (hr : r ≠ some g) : Arr w' B g t n F :=
  owns_grown h hg (fun b hb => by cases hb; exact fun e => hr e.symm)
theorem Arr.ext {w : World} {B g t n : Nat} {F G : Nat → Value} (h : Arr w B g t n F) (e : ∀ i, i < n → F i = G i) : Arr w B g t n G := by
  unfold Arr at *
  have : fC F n = fC G n := List.map_congr_left (fun i hi => e i (List.mem_range.mp hi))
  rw [← this]
  exact h
theorem made_arr (z : Value) (h : z.cells = #[z]) (n : Nat) : (madeCells z.cells (n * 1)).toList = fC (fun _ => z) n := by
  rw [h, toList_madeCells_one, Nat.mul_one]
  unfold fC
  rw [List.map_const', List.length_range]

/-- Stands. -/
theorem sC_len (ts : List (Nat × Nat)) : (sCells ts).length = ts.length * 2 := by
  induction ts with
  | nil => rfl
  | cons x r ih => simp only [sCells, List.flatMap_cons, List.length_append, List.length_cons] at *; rw [ih, show (stC x).length = 2 from rfl]; omega
theorem sC_snoc (ts : List (Nat × Nat)) (t : Nat × Nat) : sCells (ts ++ [t]) = sCells ts ++ stC t := by simp [sCells]
theorem sC_at : ∀ (ts : List (Nat × Nat)) (i : Nat), i < ts.length → (sCells ts)[i * 2]? = some (.int .i64 (ts.getD i (0, 0)).1) ∧ (sCells ts)[i * 2 + 1]? = some (.int .i64 (ts.getD i (0, 0)).2)
  | [], i, h => absurd h (Nat.not_lt_zero i)
  | t :: ts, 0, _ => ⟨rfl, rfl⟩
  | t :: ts, i + 1, h => by
    have ih := sC_at ts i (by simpa using h)
    simp only [sCells, List.flatMap_cons, List.getD_cons_succ] at *
    rw [List.getElem?_append_right (by rw [show (stC t).length = 2 from rfl]; omega), List.getElem?_append_right (by rw [show (stC t).length = 2 from rfl]; omega), show (stC t).length = 2 from rfl, show (i + 1) * 2 - 2 = i * 2 by omega, show (i + 1) * 2 + 1 - 2 = i * 2 + 1 by omega]
    exact ih

theorem Sts.form {w : World} {B : Nat} {v : Value} {ts : List (Nat × Nat)} (h : Sts w B v ts) : ∃ a cap, v = .slice a ts.length cap ∧ ts.length ≤ cap ∧ ∀ i, i < ts.length → ∃ g, a = some ⟨g, 0, none⟩ ∧ B ≤ g ∧ w.cell? ⟨g, i * 2, none⟩ = some (.int .i64 (ts.getD i (0, 0)).1) ∧ w.cell? ⟨g, i * 2 + 1, none⟩ = some (.int .i64 (ts.getD i (0, 0)).2) := by
  rcases h.2 with ⟨h1, h2⟩ | ⟨g, cap, cur, h1, h2, h3, h4, _⟩
  · exact ⟨none, 0, by rw [h1, h2], by omega, fun i hi => by omega⟩
  · refine ⟨_, cap, h1, h4, fun i hi => ⟨g, rfl, h2, ?_, ?_⟩⟩
    · rw [h1] at h
      rw [World.ownsRow.cellAt h _ (by omega)]
      exact (sC_at ts i hi).1
    · rw [h1] at h
      rw [World.ownsRow.cellAt h _ (by omega)]
      exact (sC_at ts i hi).2

/-- One fewer. -/
theorem sts_pop {w : World} {B g cap : Nat} {ts : List (Nat × Nat)} {t : Nat × Nat} (h : Sts w B (.slice (some ⟨g, 0, none⟩) (ts.length + 1) cap) (ts ++ [t])) : Sts w B (.slice (some ⟨g, 0, none⟩) ts.length cap) ts := by
  rcases h.2 with ⟨h1, _⟩ | ⟨g', cap', cur, h1, h2, h3, h4, h5, h6, h7⟩
  · cases h1
  · simp only [Value.slice.injEq, Option.some.injEq, Addr.mk.injEq, and_true] at h1
    obtain ⟨rfl, _, rfl⟩ := h1
    rw [List.length_append, List.length_singleton] at h4 h7
    refine ⟨sC_len ts, .inr ⟨_, _, cur, rfl, h2, h3, by omega, h5, h6, ?_⟩⟩
    rw [sC_snoc] at h7
    have h8 := congrArg (List.take (ts.length * 2)) h7
    rw [List.take_take, Nat.min_eq_left (by omega), List.take_append_of_le_length (by rw [sC_len]; omega)] at h8
    rw [h8, List.take_of_length_le (by rw [sC_len]; omega)]
theorem Sts.kept {w w' : World} {B : Nat} {v : Value} {ts : List (Nat × Nat)} (h : Sts w B v ts) (hb : Below w.heap.size w w') : Sts w' B v ts := owns_below h hb
theorem Sts.grown {w w' : World} {B : Nat} {v : Value} {ts : List (Nat × Nat)} {r : Option Nat} (h : Sts w B v ts) (hg : w.grownBy w' r) (hr : r = none ∨ r ≠ v.ownBlock) : Sts w' B v ts :=
  owns_grown h hg (fun b hb => by
    rcases hr with rfl | hr
    · simp
    · rw [← hb]; exact fun e => hr e.symm)
theorem sts_push {w : World} {B n g cap : Nat} {ts : List (Nat × Nat)} {t : Nat × Nat} (h : w.ownsRow B 53 2 (.slice (some ⟨g, 0, none⟩) (n + 1) cap) (n + 1) (sCells ts ++ stC t)) (hn : n = ts.length) : Sts w B (.slice (some ⟨g, 0, none⟩) (ts.length + 1) cap) (ts ++ [t]) := by
  subst hn
  unfold Sts
  rw [sC_snoc, List.length_append, List.length_singleton]
  exact h
theorem stC_one (t : Nat × Nat) : ∀ u ∈ stC t, u.oneCell' = true := by
  intro u hu
  simp only [stC, List.mem_cons, List.not_mem_nil, or_false] at hu
  rcases hu with rfl | rfl <;> rfl
theorem new_cells (w : World) (vs : List Value) (t : TypeId) : ∀ j u, vs[j]? = some u → (w.alloc (.cells vs.toArray t)).cell? ((⟨w.heap.size, 0, none⟩ : Addr).add j) = some u := by
  intro j u h
  have hh := heap_alloc_new w (.cells vs.toArray t)
  rw [show (⟨w.heap.size, 0, none⟩ : Addr).add j = ⟨w.heap.size, j, none⟩ by unfold Addr.add; split <;> simp_all]
  rw [cell_of_row _ _ _ _ _ _ hh]
  simpa using h
end Go.Proofs.YtehapcoppghppaaDoor
