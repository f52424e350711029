/- The table of functions, as memory. -/
import Derived.Test.YtfkdaimhdjaefaaDoorGAm
import Derived.Test.YtfkdaimhdjaefaaDoorProg
import Derived.WalkKit
import Derived.WalkSpells
import Derived.WalkLawsBesides
import Derived.Laws.Rows
import Derived.Laws.IdiomCopy
import Derived.Deep.MidRow
import Derived.Deep.CutRange
namespace Go.Proofs.YtfkdaimhdjaefaaDoor.Alu
open Go.RowKit

theorem ret_int {k : IntKind} {a b : Int} (h : a = b) : Ending.returned (.int k a) = .returned (.int k b) := by rw [h]

def setAll (cs : Array Value) (o : Nat) : List Value → Array Value
  | [] => cs
  | v :: vs => setAll (cs.setIfInBounds o v) (o + 1) vs

theorem setCells_row (g : Nat) (t : TypeId) : ∀ (vs : List Value) (o : Nat) (w : World) (cs : Array Value), w.heap[g]? = some (.cells cs t (0, 0)) →
    (w.setCells g o vs).heap[g]? = some (.cells (setAll cs o vs) t (0, 0))
  | [], _, _, _, h => h
  | v :: vs, o, w, cs, h => setCells_row g t vs (o + 1) (w.setCell ⟨g, o, none⟩ v) _ (heap_setCell_same w g o cs t v h)

theorem setCells_below (B g : Nat) (hg : B ≤ g) (a : World) : ∀ (vs : List Value) (o : Nat) (w : World), Below B a w → Below B a (w.setCells g o vs)
  | [], _, _, h => h
  | v :: vs, o, w, h => setCells_below B g hg a vs (o + 1) (w.setCell ⟨g, o, none⟩ v) (h.setCell hg v)

theorem there_row {w : World} {g : Nat} {cs : Array Value} {t : TypeId} (h : w.heap[g]? = some (.cells cs t (0, 0))) : w.there g 0 cs.size := by
  intro j hj
  rw [Nat.zero_add]
  exact ⟨by rw [cell_of_row w g j cs t (0, 0) h]; simp [hj], frozen_of_row w g j cs t h⟩

/-- The functions in their order. -/
def tabA : Array Value := #[.func (.func 54) #[] #[], .func (.func 55) #[] #[], .func (.func 56) #[] #[], .func (.func 57) #[] #[], .func (.func 58) #[] #[], .func (.func 59) #[] #[],
  .func (.func 60) #[] #[], .func (.func 61) #[] #[], .func (.func 62) #[] #[], .func (.func 63) #[] #[], .func (.func 64) #[] #[], .func (.func 65) #[] #[]]
def nil12 : Array Value := Array.replicate 12 .nilFunc

theorem store31 (w : World) : ∃ W : World, (storeCells ⟨w.heap.size, 0, none⟩ tabA.toList).run Tryd.prog (w.alloc (.cells nil12 64)) = .ok () W ∧
    W.heap[w.heap.size]? = some (.cells tabA 64 (0, 0)) ∧ Below w.heap.size w W := by
  have ht := there_row (heap_alloc_new w (.cells nil12 64))
  have hl : tabA.toList.length = nil12.size := rfl
  have := run_storeCells_cells (P := Tryd.prog) w.heap.size 0 tabA.toList 0 (w.alloc (.cells nil12 64)) (fun j hj => by simpa using (ht j (by rw [← hl]; exact hj)).1) (fun j hj => by have := (ht j (by rw [← hl]; exact hj)).2; simp only [Nat.zero_add] at this ⊢; exact this)
    (fun v hv => by simp [tabA] at hv; rcases hv with h | h | h | h | h | h | h | h | h | h | h | h <;> rw [h] <;> rfl)
  have h1 := setCells_row w.heap.size 64 tabA.toList 0 (w.alloc (.cells nil12 64)) nil12 (heap_alloc_new w _)
  rw [show setAll nil12 0 tabA.toList = tabA from rfl] at h1
  exact ⟨_, this, h1, setCells_below _ _ (Nat.le_refl _) w _ _ _ ((Below.refl _ _).alloc (Nat.le_refl _) _)⟩

theorem zero31 (W : World) : (zeroValue 64).run Tryd.prog W = .ok (.agg nil12) W := by kernel_rfl
theorem set31 : ((((((((((((nil12.setIfInBounds 0 (.func (.func 54) #[] #[])).setIfInBounds 1 (.func (.func 55) #[] #[])).setIfInBounds 2 (.func (.func 56) #[] #[])).setIfInBounds 3 (.func (.func 57) #[] #[])).setIfInBounds 4 (.func (.func 58) #[] #[])).setIfInBounds 5 (.func (.func 59) #[] #[])).setIfInBounds 6 (.func (.func 60) #[] #[])).setIfInBounds 7 (.func (.func 61) #[] #[])).setIfInBounds 8 (.func (.func 62) #[] #[])).setIfInBounds 9 (.func (.func 63) #[] #[])).setIfInBounds 10 (.func (.func 64) #[] #[])).setIfInBounds 11 (.func (.func 65) #[] #[])) = tabA := rfl
theorem size31 : (Tryd.prog.info? 64).map (·.size) = some 12 := by kernel_rfl

set_option maxRecDepth 100000 in
set_option maxHeartbeats 1000000 in
theorem functions_any (w : World) :
    Calls Tryd.prog 32 #[] w fun e w' => e = .returned (.agg tabA) ∧ Below w.heap.size w w' := by
  obtain ⟨W, hst, hrow, hbw⟩ := store31 w
  have hz := zero31
  have hb0 := set31
  have hb1 : tabA.size = 12 := rfl
  have hb2 : nil12.size = 12 := rfl
  have HR : Hid _ := hrow
  clear hrow
  go_enter Tryd.func32, Tryd.ntmps32
  go_wp2
  refine bodyPost_ret (v := .agg tabA) ?_ rfl ⟨rfl, hbw⟩
  have c0 : W.cell? ⟨w.heap.size, 0, none⟩ = some (.func (.func 54) #[] #[]) := by rw [cell_of_row W _ _ tabA 64 (0, 0) HR]; rfl
  have c1 : W.cell? ⟨w.heap.size, 1, none⟩ = some (.func (.func 55) #[] #[]) := by rw [cell_of_row W _ _ tabA 64 (0, 0) HR]; rfl
  have c2 : W.cell? ⟨w.heap.size, 2, none⟩ = some (.func (.func 56) #[] #[]) := by rw [cell_of_row W _ _ tabA 64 (0, 0) HR]; rfl
  have c3 : W.cell? ⟨w.heap.size, 3, none⟩ = some (.func (.func 57) #[] #[]) := by rw [cell_of_row W _ _ tabA 64 (0, 0) HR]; rfl
  have c4 : W.cell? ⟨w.heap.size, 4, none⟩ = some (.func (.func 58) #[] #[]) := by rw [cell_of_row W _ _ tabA 64 (0, 0) HR]; rfl
  have c5 : W.cell? ⟨w.heap.size, 5, none⟩ = some (.func (.func 59) #[] #[]) := by rw [cell_of_row W _ _ tabA 64 (0, 0) HR]; rfl
  have c6 : W.cell? ⟨w.heap.size, 6, none⟩ = some (.func (.func 60) #[] #[]) := by rw [cell_of_row W _ _ tabA 64 (0, 0) HR]; rfl
  have c7 : W.cell? ⟨w.heap.size, 7, none⟩ = some (.func (.func 61) #[] #[]) := by rw [cell_of_row W _ _ tabA 64 (0, 0) HR]; rfl
  have c8 : W.cell? ⟨w.heap.size, 8, none⟩ = some (.func (.func 62) #[] #[]) := by rw [cell_of_row W _ _ tabA 64 (0, 0) HR]; rfl
  have c9 : W.cell? ⟨w.heap.size, 9, none⟩ = some (.func (.func 63) #[] #[]) := by rw [cell_of_row W _ _ tabA 64 (0, 0) HR]; rfl
  have c10 : W.cell? ⟨w.heap.size, 10, none⟩ = some (.func (.func 64) #[] #[]) := by rw [cell_of_row W _ _ tabA 64 (0, 0) HR]; rfl
  have c11 : W.cell? ⟨w.heap.size, 11, none⟩ = some (.func (.func 65) #[] #[]) := by rw [cell_of_row W _ _ tabA 64 (0, 0) HR]; rfl
  simp [results, Tryd.results32, go_sem, c0, c1, c2, c3, c4, c5, c6, c7, c8, c9, c10, c11, tabA]
end Go.Proofs.YtfkdaimhdjaefaaDoor.Alu

/- The twelve functions, one contract each. -/
namespace Go.Proofs.YtfkdaimhdjaefaaDoor.Alu
open Go.RowKit

theorem add_any (b c : Int) (w : World) :
    Calls Tryd.prog 54 #[.int .i64 b, .int .i64 c] w fun e w' => e = .returned (.int .i64 (iadd b c)) ∧ w' = w := by
  go_enter Tryd.func54, Tryd.ntmps54
  go_wp2
  go_ret
  exact ⟨rfl, rfl⟩

theorem sub_any (b c : Int) (w : World) :
    Calls Tryd.prog 55 #[.int .i64 b, .int .i64 c] w fun e w' => e = .returned (.int .i64 (isub b c)) ∧ w' = w := by
  go_enter Tryd.func55, Tryd.ntmps55
  go_wp2
  go_ret
  exact ⟨rfl, rfl⟩

theorem mul_any (b c : Int) (w : World) :
    Calls Tryd.prog 56 #[.int .i64 b, .int .i64 c] w fun e w' => e = .returned (.int .i64 (imul b c)) ∧ w' = w := by
  go_enter Tryd.func56, Tryd.ntmps56
  go_wp2
  go_ret
  exact ⟨rfl, rfl⟩

theorem and_any (b c : Int) (w : World) :
    Calls Tryd.prog 59 #[.int .i64 b, .int .i64 c] w fun e w' => e = .returned (.int .i64 (iand b c)) ∧ w' = w := by
  go_enter Tryd.func59, Tryd.ntmps59
  go_wp2
  go_ret
  exact ⟨rfl, rfl⟩

theorem or_any (b c : Int) (w : World) :
    Calls Tryd.prog 60 #[.int .i64 b, .int .i64 c] w fun e w' => e = .returned (.int .i64 (ior b c)) ∧ w' = w := by
  go_enter Tryd.func60, Tryd.ntmps60
  go_wp2
  go_ret
  exact ⟨rfl, rfl⟩

theorem xor_any (b c : Int) (w : World) :
    Calls Tryd.prog 61 #[.int .i64 b, .int .i64 c] w fun e w' => e = .returned (.int .i64 (ixor b c)) ∧ w' = w := by
  go_enter Tryd.func61, Tryd.ntmps61
  go_wp2
  go_ret
  exact ⟨rfl, rfl⟩

theorem div_any (b c : Int) (w : World) :
    Calls Tryd.prog 57 #[.int .i64 b, .int .i64 c] w fun e w' => e = .returned (.int .i64 (idiv b c)) ∧ w' = w := by
  by_cases h0 : c = 0
  · subst h0
    have e : idiv b 0 = 0 := by simp [idiv, wrap64]
    rw [e]
    go_enter Tryd.func57, Tryd.ntmps57
    go_wp2
    go_ret
    exact ⟨rfl, rfl⟩
  · have t : (c == 0) = false := by simp [h0]
    unfold idiv
    go_enter Tryd.func57, Tryd.ntmps57
    go_wp2
    go_ret
    exact ⟨rfl, rfl⟩

theorem rem_any (b c : Int) (w : World) :
    Calls Tryd.prog 58 #[.int .i64 b, .int .i64 c] w fun e w' => e = .returned (.int .i64 (irem b c)) ∧ w' = w := by
  unfold irem
  go_enter Tryd.func58, Tryd.ntmps58
  go_wp2_with (go_at_call 57; refine (div_any b c _).mono ?_; rintro e w' ⟨rfl, rfl⟩)
  go_ret
  exact ⟨rfl, rfl⟩

theorem shl_any (b c : Int) (w : World) :
    Calls Tryd.prog 62 #[.int .i64 b, .int .i64 c] w fun e w' => e = .returned (.int .i64 (ishl b c)) ∧ w' = w := by
  by_cases h : c < 0
  · have e : ishl b c = b := by simp [ishl, h]
    rw [e]
    go_enter Tryd.func62, Tryd.ntmps62
    go_wp2
    go_ret
    exact ⟨rfl, rfl⟩
  · have e : ishl b c = wrap64 (b * 2 ^ min c.toNat 64) := by simp [ishl, h]
    rw [e]
    have h' : 0 ≤ c := by omega
    clear e h
    go_enter Tryd.func62, Tryd.ntmps62
    go_wp2
    go_ret
    exact ⟨rfl, rfl⟩

theorem shr_any (b c : Int) (w : World) :
    Calls Tryd.prog 63 #[.int .i64 b, .int .i64 c] w fun e w' => e = .returned (.int .i64 (ishr b c)) ∧ w' = w := by
  by_cases h : c < 0
  · have e : ishr b c = b := by simp [ishr, h]
    rw [e]
    go_enter Tryd.func63, Tryd.ntmps63
    go_wp2
    go_ret
    exact ⟨rfl, rfl⟩
  · have e : ishr b c = b / 2 ^ min c.toNat 64 := by simp [ishr, h]
    rw [e]
    have h' : 0 ≤ c := by omega
    clear e h
    go_enter Tryd.func63, Tryd.ntmps63
    go_wp2
    go_ret
    exact ⟨rfl, rfl⟩

theorem number_any (x : Bool) (w : World) :
    Calls Tryd.prog 82 #[.bool x] w fun e w' => e = .returned (.int .i64 (if x then 1 else 0)) ∧ w' = w := by
  cases x
  all_goals
    go_enter Tryd.func82, Tryd.ntmps82
    go_wp2
    go_ret
    exact ⟨rfl, rfl⟩

theorem less_any (b c : Int) (w : World) :
    Calls Tryd.prog 64 #[.int .i64 b, .int .i64 c] w fun e w' => e = .returned (.int .i64 (iless b c)) ∧ w' = w := by
  unfold iless
  by_cases h : b < c
  · have h1 : decide (b < c) = true := by simp [h]
    rw [if_pos h]
    go_enter Tryd.func64, Tryd.ntmps64
    go_wp2_with (go_at_call 82; refine (number_any true _).mono ?_; rintro e w' ⟨rfl, rfl⟩)
    go_ret
    exact ⟨rfl, rfl⟩
  · have h1 : decide (b < c) = false := by simp; omega
    rw [if_neg h]
    go_enter Tryd.func64, Tryd.ntmps64
    go_wp2_with (go_at_call 82; refine (number_any false _).mono ?_; rintro e w' ⟨rfl, rfl⟩)
    go_ret
    exact ⟨rfl, rfl⟩

theorem equal_any (b c : Int) (w : World) :
    Calls Tryd.prog 65 #[.int .i64 b, .int .i64 c] w fun e w' => e = .returned (.int .i64 (iequal b c)) ∧ w' = w := by
  unfold iequal
  by_cases h : b = c
  · have h1 : (b == c) = true := by simp [h]
    rw [if_pos h]
    clear h
    go_enter Tryd.func65, Tryd.ntmps65
    go_wp2_with (go_at_call 82; refine (number_any true _).mono ?_; rintro e w' ⟨rfl, rfl⟩)
    go_ret
    exact ⟨rfl, rfl⟩
  · have h1 : (b == c) = false := by simp [h]
    rw [if_neg h]
    go_enter Tryd.func65, Tryd.ntmps65
    go_wp2_with (go_at_call 82; refine (number_any false _).mono ?_; rintro e w' ⟨rfl, rfl⟩)
    go_ret
    exact ⟨rfl, rfl⟩
end Go.Proofs.YtfkdaimhdjaefaaDoor.Alu
