/- The table of functions, as memory. -/
import Derived.Test.YtdmholagdmdlcaaRows
import Derived.WalkKit
import Derived.WalkSpells
import Derived.WalkLawsBesides
import Derived.Laws.Rows
import Derived.Laws.IdiomCopy
import Derived.Deep.MidRow
import Derived.Deep.CutRange
namespace Go.Proofs.Ytdmholagdmdlcaa
open Go.RowKit

theorem ret_int {k : IntKind} {a b : Int} (h : a = b) : Ending.returned (.int k a) = .returned (.int k b) := by rw [h]

def setAll (cs : Array Value) (o : Nat) : List Value → Array Value
  | [] => cs
  | v :: vs => setAll (cs.setIfInBounds o v) (o + 1) vs

theorem setCells_row (g : Nat) (t : TypeId) : ∀ (vs : List Value) (o : Nat) (w : World) (cs : Array Value), w.heap[g]? = some (.cells cs t (0, 0)) →
    (w.setCells g o vs).heap[g]? = some (.cells (setAll cs o vs) t (0, 0))
  | [], _, _, _, h => h
  | v :: vs, o, w, cs, h => setCells_row g t vs (o + 1) (w.setCell ⟨g, o, none⟩ v) _ (heap_setCell_same w g o cs t v h)

theorem setCells_below (B g : Nat) (hg : B ≤ g) (a : World) : ∀ (vs : List Value) (o : Nat) (w : World), Below B a w → Below B a (w.setCells g o vs)
  | [], _, _, h => h
  | v :: vs, o, w, h => setCells_below B g hg a vs (o + 1) (w.setCell ⟨g, o, none⟩ v) (h.setCell hg v)

theorem there_row {w : World} {g : Nat} {cs : Array Value} {t : TypeId} (h : w.heap[g]? = some (.cells cs t (0, 0))) : w.there g 0 cs.size := by
  intro j hj
  rw [Nat.zero_add]
  exact ⟨by rw [cell_of_row w g j cs t (0, 0) h]; simp [hj], frozen_of_row w g j cs t h⟩

/-- The functions in their order. -/
def tabA : Array Value := #[.func (.func 17) #[] #[], .func (.func 18) #[] #[], .func (.func 19) #[] #[], .func (.func 20) #[] #[], .func (.func 21) #[] #[], .func (.func 22) #[] #[],
  .func (.func 23) #[] #[], .func (.func 24) #[] #[], .func (.func 25) #[] #[], .func (.func 26) #[] #[], .func (.func 27) #[] #[], .func (.func 28) #[] #[]]
def nil12 : Array Value := Array.replicate 12 .nilFunc

theorem store31 (w : World) : ∃ W : World, (storeCells ⟨w.heap.size, 0, none⟩ tabA.toList).run Try.prog (w.alloc (.cells nil12 31)) = .ok () W ∧
    W.heap[w.heap.size]? = some (.cells tabA 31 (0, 0)) ∧ Below w.heap.size w W := by
  have ht := there_row (heap_alloc_new w (.cells nil12 31))
  have hl : tabA.toList.length = nil12.size := rfl
  have := run_storeCells_cells (P := Try.prog) w.heap.size 0 tabA.toList 0 (w.alloc (.cells nil12 31)) (fun j hj => by simpa using (ht j (by rw [← hl]; exact hj)).1) (fun j hj => by have := (ht j (by rw [← hl]; exact hj)).2; simp only [Nat.zero_add] at this ⊢; exact this)
    (fun v hv => by simp [tabA] at hv; rcases hv with h | h | h | h | h | h | h | h | h | h | h | h <;> rw [h] <;> rfl)
  have h1 := setCells_row w.heap.size 31 tabA.toList 0 (w.alloc (.cells nil12 31)) nil12 (heap_alloc_new w _)
  rw [show setAll nil12 0 tabA.toList = tabA from rfl] at h1
  exact ⟨_, this, h1, setCells_below _ _ (Nat.le_refl _) w _ _ _ ((Below.refl _ _).alloc (Nat.le_refl _) _)⟩

theorem zero31 (W : World) : (zeroValue 31).run Try.prog W = .ok (.agg nil12) W := by kernel_rfl
theorem set31 : ((((((((((((nil12.setIfInBounds 0 (.func (.func 17) #[] #[])).setIfInBounds 1 (.func (.func 18) #[] #[])).setIfInBounds 2 (.func (.func 19) #[] #[])).setIfInBounds 3 (.func (.func 20) #[] #[])).setIfInBounds 4 (.func (.func 21) #[] #[])).setIfInBounds 5 (.func (.func 22) #[] #[])).setIfInBounds 6 (.func (.func 23) #[] #[])).setIfInBounds 7 (.func (.func 24) #[] #[])).setIfInBounds 8 (.func (.func 25) #[] #[])).setIfInBounds 9 (.func (.func 26) #[] #[])).setIfInBounds 10 (.func (.func 27) #[] #[])).setIfInBounds 11 (.func (.func 28) #[] #[])) = tabA := rfl
theorem size31 : (Try.prog.info? 31).map (·.size) = some 12 := by kernel_rfl

set_option maxRecDepth 100000 in
set_option maxHeartbeats 1000000 in
theorem functions_any (w : World) :
    Calls Try.prog 11 #[] w fun e w' => e = .returned (.agg tabA) ∧ Below w.heap.size w w' := by
  obtain ⟨W, hst, hrow, hbw⟩ := store31 w
  have hz := zero31
  have hb0 := set31
  have hb1 : tabA.size = 12 := rfl
  have hb2 : nil12.size = 12 := rfl
  have HR : Hid _ := hrow
  clear hrow
  go_enter Try.func11, Try.ntmps11
  go_wp2
  refine bodyPost_ret (v := .agg tabA) ?_ rfl ⟨rfl, hbw⟩
  have c0 : W.cell? ⟨w.heap.size, 0, none⟩ = some (.func (.func 17) #[] #[]) := by rw [cell_of_row W _ _ tabA 31 (0, 0) HR]; rfl
  have c1 : W.cell? ⟨w.heap.size, 1, none⟩ = some (.func (.func 18) #[] #[]) := by rw [cell_of_row W _ _ tabA 31 (0, 0) HR]; rfl
  have c2 : W.cell? ⟨w.heap.size, 2, none⟩ = some (.func (.func 19) #[] #[]) := by rw [cell_of_row W _ _ tabA 31 (0, 0) HR]; rfl
  have c3 : W.cell? ⟨w.heap.size, 3, none⟩ = some (.func (.func 20) #[] #[]) := by rw [cell_of_row W _ _ tabA 31 (0, 0) HR]; rfl
  have c4 : W.cell? ⟨w.heap.size, 4, none⟩ = some (.func (.func 21) #[] #[]) := by rw [cell_of_row W _ _ tabA 31 (0, 0) HR]; rfl
  have c5 : W.cell? ⟨w.heap.size, 5, none⟩ = some (.func (.func 22) #[] #[]) := by rw [cell_of_row W _ _ tabA 31 (0, 0) HR]; rfl
  have c6 : W.cell? ⟨w.heap.size, 6, none⟩ = some (.func (.func 23) #[] #[]) := by rw [cell_of_row W _ _ tabA 31 (0, 0) HR]; rfl
  have c7 : W.cell? ⟨w.heap.size, 7, none⟩ = some (.func (.func 24) #[] #[]) := by rw [cell_of_row W _ _ tabA 31 (0, 0) HR]; rfl
  have c8 : W.cell? ⟨w.heap.size, 8, none⟩ = some (.func (.func 25) #[] #[]) := by rw [cell_of_row W _ _ tabA 31 (0, 0) HR]; rfl
  have c9 : W.cell? ⟨w.heap.size, 9, none⟩ = some (.func (.func 26) #[] #[]) := by rw [cell_of_row W _ _ tabA 31 (0, 0) HR]; rfl
  have c10 : W.cell? ⟨w.heap.size, 10, none⟩ = some (.func (.func 27) #[] #[]) := by rw [cell_of_row W _ _ tabA 31 (0, 0) HR]; rfl
  have c11 : W.cell? ⟨w.heap.size, 11, none⟩ = some (.func (.func 28) #[] #[]) := by rw [cell_of_row W _ _ tabA 31 (0, 0) HR]; rfl
  simp [results, Try.results11, go_sem, c0, c1, c2, c3, c4, c5, c6, c7, c8, c9, c10, c11, tabA]
end Go.Proofs.Ytdmholagdmdlcaa
