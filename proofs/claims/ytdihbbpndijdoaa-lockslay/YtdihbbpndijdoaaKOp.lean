/- Steps as cells. -/
import Derived.Test.YtdihbbpndijdoaaKWF
namespace Go.Proofs.Ytdihbbpndijdoaa
open Go.RowKit Go.Maps

/-- A step: its kind, the lock, who. -/
abbrev Op3 := Int × Int × Int
def opP (x : Op3) : List Value := [.int .i64 x.1, .int .i64 x.2.1, .int .i64 x.2.2]
def opC (l : List Op3) : List Value := l.flatMap opP
def opAt (l : List Op3) (i : Nat) : Op3 := l.getD i (0, 0, 0)
theorem opC_at : ∀ (l : List Op3) (i : Nat), i < l.length → (opC l)[i * 3]? = some (.int .i64 (opAt l i).1) ∧ (opC l)[i * 3 + 1]? = some (.int .i64 (opAt l i).2.1) ∧ (opC l)[i * 3 + 2]? = some (.int .i64 (opAt l i).2.2)
  | [], i, h => absurd h (Nat.not_lt_zero i)
  | t :: ts, 0, _ => ⟨rfl, rfl, rfl⟩
  | t :: ts, i + 1, h => by
    have ih := opC_at ts i (by simpa using h)
    simp only [opC, opAt, List.flatMap_cons, List.getD_cons_succ] at *
    rw [List.getElem?_append_right (by rw [show (opP t).length = 3 from rfl]; omega), List.getElem?_append_right (by rw [show (opP t).length = 3 from rfl]; omega), List.getElem?_append_right (by rw [show (opP t).length = 3 from rfl]; omega), show (opP t).length = 3 from rfl, show (i + 1) * 3 - 3 = i * 3 by omega, show (i + 1) * 3 + 1 - 3 = i * 3 + 1 by omega, show (i + 1) * 3 + 2 - 3 = i * 3 + 2 by omega]
    exact ih
theorem rd_op {w : World} {a : Option Addr} {l : List Op3} (h : Rd w a (opC l)) (i : Nat) (hi : i < l.length) : ∃ g o, a = some ⟨g, o, none⟩ ∧ w.cell? ⟨g, o + i * 3, none⟩ = some (.int .i64 (opAt l i).1) ∧ w.cell? ⟨g, o + i * 3 + 1, none⟩ = some (.int .i64 (opAt l i).2.1) ∧ w.cell? ⟨g, o + i * 3 + 2, none⟩ = some (.int .i64 (opAt l i).2.2) := by
  obtain ⟨k0, k1, k2⟩ := opC_at l i hi
  obtain ⟨g, o, rfl, h0⟩ := h _ _ k0
  obtain ⟨g', o', e, h1⟩ := h _ _ k1
  cases e
  obtain ⟨g', o', e, h2⟩ := h _ _ k2
  cases e
  exact ⟨g, o, rfl, h0, h1, h2⟩
theorem opAt_mem {l : List Op3} {i : Nat} (h : i < l.length) : opAt l i ∈ l := by
  unfold opAt
  rw [List.getD_eq_getElem?_getD, List.getElem?_eq_getElem h]
  exact List.getElem_mem h

/-- A step in a variable of its own. -/
theorem op_box (w : World) (kd lock p : Int) : (w.alloc (.cells #[.int .i64 kd, .int .i64 lock, .int .i64 p] 41)).cell? ⟨w.heap.size, 0, none⟩ = some (.int .i64 kd) ∧ (w.alloc (.cells #[.int .i64 kd, .int .i64 lock, .int .i64 p] 41)).cell? ⟨w.heap.size, 1, none⟩ = some (.int .i64 lock) ∧ (w.alloc (.cells #[.int .i64 kd, .int .i64 lock, .int .i64 p] 41)).cell? ⟨w.heap.size, 2, none⟩ = some (.int .i64 p) := by
  have hh := heap_alloc_new w (.cells #[.int .i64 kd, .int .i64 lock, .int .i64 p] 41)
  refine ⟨?_, ?_, ?_⟩ <;> rw [cell_of_row _ _ _ _ _ _ hh] <;> simp
end Go.Proofs.Ytdihbbpndijdoaa
