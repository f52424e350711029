/- The table of functions, as memory. -/
import Derived.Test.YthnjeejnnhadeaaGreatDoorProg
import Derived.WalkKit
import Derived.WalkSpells
import Derived.WalkLawsBesides
import Derived.Laws.Rows
import Derived.Laws.IdiomCopy
import Derived.Deep.MidRow
import Derived.Deep.CutRange
import Derived.RowKit
import Derived.Laws.BitsAllLaws
namespace Go.Proofs.YthnjeejnnhadeaaGreatDoor.Alu
open Go.RowKit
theorem ret_int {k : IntKind} {a b : Int} (h : a = b) : Ending.returned (.int k a) = .returned (.int k b) := by rw [h]
def setAll (cs : Array Value) (o : Nat) : List Value → Array Value
 | [] => cs
 | v :: vs => setAll (cs.setIfInBounds o v) (o + 1) vs
theorem setCells_row (g : Nat) (t : TypeId) : ∀ (vs : List Value) (o : Nat) (w : World) (cs : Array Value), w.heap[g]? = some (.cells cs t (0, 0)) →
  (w.setCells g o vs).heap[g]? = some (.cells (setAll cs o vs) t (0, 0))
 | [], _, _, _, h => h
 | v :: vs, o, w, cs, h => setCells_row g t vs (o + 1) (w.setCell ⟨g, o, none⟩ v) _ (heap_setCell_same w g o cs t v h)
theorem setCells_below (B g : Nat) (hg : B ≤ g) (a : World) : ∀ (vs : List Value) (o : Nat) (w : World), Below B a w → Below B a (w.setCells g o vs)
 | [], _, _, h => h
 | v :: vs, o, w, h => setCells_below B g hg a vs (o + 1) (w.setCell ⟨g, o, none⟩ v) (h.setCell hg v)
theorem there_row {w : World} {g : Nat} {cs : Array Value} {t : TypeId} (h : w.heap[g]? = some (.cells cs t (0, 0))) : w.there g 0 cs.size := by
 intro j hj
 rw [Nat.zero_add]
 exact ⟨by rw [cell_of_row w g j cs t (0, 0) h]; simp [hj], frozen_of_row w g j cs t h⟩
def tabA : Array Value := #[.func (.func 281) #[] #[], .func (.func 282) #[] #[], .func (.func 283) #[] #[], .func (.func 284) #[] #[], .func (.func 285) #[] #[], .func (.func 286) #[] #[],
 .func (.func 287) #[] #[], .func (.func 288) #[] #[], .func (.func 289) #[] #[], .func (.func 290) #[] #[], .func (.func 291) #[] #[], .func (.func 292) #[] #[]]
def nil12 : Array Value := Array.replicate 12 .nilFunc
theorem store31 (w : World) : ∃ W : World, (storeCells ⟨w.heap.size, 0, none⟩ tabA.toList).run Tryz.prog (w.alloc (.cells nil12 313)) = .ok () W ∧
  W.heap[w.heap.size]? = some (.cells tabA 313 (0, 0)) ∧ Below w.heap.size w W := by
 have ht := there_row (heap_alloc_new w (.cells nil12 313))
 have hl : tabA.toList.length = nil12.size := rfl
 have := run_storeCells_cells (P := Tryz.prog) w.heap.size 0 tabA.toList 0 (w.alloc (.cells nil12 313)) (fun j hj => by simpa using (ht j (by rw [← hl]; exact hj)).1) (fun j hj => by have := (ht j (by rw [← hl]; exact hj)).2; simp only [Nat.zero_add] at this ⊢; exact this)
  (fun v hv => by simp [tabA] at hv; rcases hv with h | h | h | h | h | h | h | h | h | h | h | h <;> rw [h] <;> rfl)
 have h1 := setCells_row w.heap.size 313 tabA.toList 0 (w.alloc (.cells nil12 313)) nil12 (heap_alloc_new w _)
 rw [show setAll nil12 0 tabA.toList = tabA from rfl] at h1
 exact ⟨_, this, h1, setCells_below _ _ (Nat.le_refl _) w _ _ _ ((Below.refl _ _).alloc (Nat.le_refl _) _)⟩
theorem zero31 (W : World) : (zeroValue 313).run Tryz.prog W = .ok (.agg nil12) W := by kernel_rfl
theorem set31 : ((((((((((((nil12.setIfInBounds 0 (.func (.func 281) #[] #[])).setIfInBounds 1 (.func (.func 282) #[] #[])).setIfInBounds 2 (.func (.func 283) #[] #[])).setIfInBounds 3 (.func (.func 284) #[] #[])).setIfInBounds 4 (.func (.func 285) #[] #[])).setIfInBounds 5 (.func (.func 286) #[] #[])).setIfInBounds 6 (.func (.func 287) #[] #[])).setIfInBounds 7 (.func (.func 288) #[] #[])).setIfInBounds 8 (.func (.func 289) #[] #[])).setIfInBounds 9 (.func (.func 290) #[] #[])).setIfInBounds 10 (.func (.func 291) #[] #[])).setIfInBounds 11 (.func (.func 292) #[] #[])) = tabA := rfl
set_option maxRecDepth 100000 in
set_option maxHeartbeats 1000000 in
theorem functions_any (w : World) :
  Calls Tryz.prog 247 #[] w fun e w' => e = .returned (.agg tabA) ∧ Below w.heap.size w w' := by
 obtain ⟨W, hst, hrow, hbw⟩ := store31 w
 have hz := zero31
 have hb0 := set31
 have hb1 : tabA.size = 12 := rfl
 have hb2 : nil12.size = 12 := rfl
 have HR : Hid _ := hrow
 clear hrow
 go_enter Tryz.func247, Tryz.ntmps247
 go_wp2
 refine bodyPost_ret (v := .agg tabA) ?_ rfl ⟨rfl, hbw⟩
 have c0 : W.cell? ⟨w.heap.size, 0, none⟩ = some (.func (.func 281) #[] #[]) := by rw [cell_of_row W _ _ tabA 313 (0, 0) HR]; rfl
 have c1 : W.cell? ⟨w.heap.size, 1, none⟩ = some (.func (.func 282) #[] #[]) := by rw [cell_of_row W _ _ tabA 313 (0, 0) HR]; rfl
 have c2 : W.cell? ⟨w.heap.size, 2, none⟩ = some (.func (.func 283) #[] #[]) := by rw [cell_of_row W _ _ tabA 313 (0, 0) HR]; rfl
 have c3 : W.cell? ⟨w.heap.size, 3, none⟩ = some (.func (.func 284) #[] #[]) := by rw [cell_of_row W _ _ tabA 313 (0, 0) HR]; rfl
 have c4 : W.cell? ⟨w.heap.size, 4, none⟩ = some (.func (.func 285) #[] #[]) := by rw [cell_of_row W _ _ tabA 313 (0, 0) HR]; rfl
 have c5 : W.cell? ⟨w.heap.size, 5, none⟩ = some (.func (.func 286) #[] #[]) := by rw [cell_of_row W _ _ tabA 313 (0, 0) HR]; rfl
 have c6 : W.cell? ⟨w.heap.size, 6, none⟩ = some (.func (.func 287) #[] #[]) := by rw [cell_of_row W _ _ tabA 313 (0, 0) HR]; rfl
 have c7 : W.cell? ⟨w.heap.size, 7, none⟩ = some (.func (.func 288) #[] #[]) := by rw [cell_of_row W _ _ tabA 313 (0, 0) HR]; rfl
 have c8 : W.cell? ⟨w.heap.size, 8, none⟩ = some (.func (.func 289) #[] #[]) := by rw [cell_of_row W _ _ tabA 313 (0, 0) HR]; rfl
 have c9 : W.cell? ⟨w.heap.size, 9, none⟩ = some (.func (.func 290) #[] #[]) := by rw [cell_of_row W _ _ tabA 313 (0, 0) HR]; rfl
 have c10 : W.cell? ⟨w.heap.size, 10, none⟩ = some (.func (.func 291) #[] #[]) := by rw [cell_of_row W _ _ tabA 313 (0, 0) HR]; rfl
 have c11 : W.cell? ⟨w.heap.size, 11, none⟩ = some (.func (.func 292) #[] #[]) := by rw [cell_of_row W _ _ tabA 313 (0, 0) HR]; rfl
 simp [results, Tryz.results247, go_sem, c0, c1, c2, c3, c4, c5, c6, c7, c8, c9, c10, c11, tabA]
end Go.Proofs.YthnjeejnnhadeaaGreatDoor.Alu

namespace Go.Proofs.YthnjeejnnhadeaaGreatDoor.Alu
open Go.RowKit
def iadd (b c : Int) : Int := wrap64 (b + c)
def isub (b c : Int) : Int := wrap64 (b - c)
def imul (b c : Int) : Int := wrap64 (b * c)
def idiv (b c : Int) : Int := wrap64 (b.tdiv c)
def irem (b c : Int) : Int := wrap64 (b - wrap64 (idiv b c * c))
def iand (b c : Int) : Int := bits .and .i64 b c
def ior (b c : Int) : Int := bits .or .i64 b c
def ixor (b c : Int) : Int := bits .xor .i64 b c
def ishl (b c : Int) : Int := if c < 0 then b else wrap64 (b * 2 ^ min c.toNat 64)
def ishr (b c : Int) : Int := if c < 0 then b else b / 2 ^ min c.toNat 64
def iless (b c : Int) : Int := if b < c then 1 else 0
def iequal (b c : Int) : Int := if b = c then 1 else 0
end Go.Proofs.YthnjeejnnhadeaaGreatDoor.Alu

namespace Go.Proofs.YthnjeejnnhadeaaGreatDoor.Alu
open Go.RowKit
theorem add_any (b c : Int) (w : World) :
  Calls Tryz.prog 281 #[.int .i64 b, .int .i64 c] w fun e w' => e = .returned (.int .i64 (iadd b c)) ∧ w' = w := by
 go_enter Tryz.func281, Tryz.ntmps281
 go_wp2
 go_ret
 exact ⟨rfl, rfl⟩
theorem sub_any (b c : Int) (w : World) :
  Calls Tryz.prog 282 #[.int .i64 b, .int .i64 c] w fun e w' => e = .returned (.int .i64 (isub b c)) ∧ w' = w := by
 go_enter Tryz.func282, Tryz.ntmps282
 go_wp2
 go_ret
 exact ⟨rfl, rfl⟩
theorem mul_any (b c : Int) (w : World) :
  Calls Tryz.prog 283 #[.int .i64 b, .int .i64 c] w fun e w' => e = .returned (.int .i64 (imul b c)) ∧ w' = w := by
 go_enter Tryz.func283, Tryz.ntmps283
 go_wp2
 go_ret
 exact ⟨rfl, rfl⟩
theorem and_any (b c : Int) (w : World) :
  Calls Tryz.prog 286 #[.int .i64 b, .int .i64 c] w fun e w' => e = .returned (.int .i64 (iand b c)) ∧ w' = w := by
 go_enter Tryz.func286, Tryz.ntmps286
 go_wp2
 go_ret
 exact ⟨rfl, rfl⟩
theorem or_any (b c : Int) (w : World) :
  Calls Tryz.prog 287 #[.int .i64 b, .int .i64 c] w fun e w' => e = .returned (.int .i64 (ior b c)) ∧ w' = w := by
 go_enter Tryz.func287, Tryz.ntmps287
 go_wp2
 go_ret
 exact ⟨rfl, rfl⟩
theorem xor_any (b c : Int) (w : World) :
  Calls Tryz.prog 288 #[.int .i64 b, .int .i64 c] w fun e w' => e = .returned (.int .i64 (ixor b c)) ∧ w' = w := by
 go_enter Tryz.func288, Tryz.ntmps288
 go_wp2
 go_ret
 exact ⟨rfl, rfl⟩
theorem div_any (b c : Int) (w : World) :
  Calls Tryz.prog 284 #[.int .i64 b, .int .i64 c] w fun e w' => e = .returned (.int .i64 (idiv b c)) ∧ w' = w := by
 by_cases h0 : c = 0
 ·subst h0
  have e : idiv b 0 = 0 := by simp [idiv, wrap64]
  rw [e]
  go_enter Tryz.func284, Tryz.ntmps284
  go_wp2
  go_ret
  exact ⟨rfl, rfl⟩
 ·have t : (c == 0) = false := by simp [h0]
  unfold idiv
  go_enter Tryz.func284, Tryz.ntmps284
  go_wp2
  go_ret
  exact ⟨rfl, rfl⟩
theorem rem_any (b c : Int) (w : World) :
  Calls Tryz.prog 285 #[.int .i64 b, .int .i64 c] w fun e w' => e = .returned (.int .i64 (irem b c)) ∧ w' = w := by
 unfold irem
 go_enter Tryz.func285, Tryz.ntmps285
 go_wp2_with (go_at_call 284; refine (div_any b c _).mono ?_; rintro e w' ⟨rfl, rfl⟩)
 go_ret
 exact ⟨rfl, rfl⟩
theorem shl_any (b c : Int) (w : World) :
  Calls Tryz.prog 289 #[.int .i64 b, .int .i64 c] w fun e w' => e = .returned (.int .i64 (ishl b c)) ∧ w' = w := by
 by_cases h : c < 0
 ·have e : ishl b c = b := by simp [ishl, h]
  rw [e]
  go_enter Tryz.func289, Tryz.ntmps289
  go_wp2
  go_ret
  exact ⟨rfl, rfl⟩
 ·have e : ishl b c = wrap64 (b * 2 ^ min c.toNat 64) := by simp [ishl, h]
  rw [e]
  have h' : 0 ≤ c := by omega
  clear e h
  go_enter Tryz.func289, Tryz.ntmps289
  go_wp2
  go_ret
  exact ⟨rfl, rfl⟩
theorem shr_any (b c : Int) (w : World) :
  Calls Tryz.prog 290 #[.int .i64 b, .int .i64 c] w fun e w' => e = .returned (.int .i64 (ishr b c)) ∧ w' = w := by
 by_cases h : c < 0
 ·have e : ishr b c = b := by simp [ishr, h]
  rw [e]
  go_enter Tryz.func290, Tryz.ntmps290
  go_wp2
  go_ret
  exact ⟨rfl, rfl⟩
 ·have e : ishr b c = b / 2 ^ min c.toNat 64 := by simp [ishr, h]
  rw [e]
  have h' : 0 ≤ c := by omega
  clear e h
  go_enter Tryz.func290, Tryz.ntmps290
  go_wp2
  go_ret
  exact ⟨rfl, rfl⟩
theorem number_any (x : Bool) (w : World) :
  Calls Tryz.prog 320 #[.bool x] w fun e w' => e = .returned (.int .i64 (if x then 1 else 0)) ∧ w' = w := by
 cases x
 all_goals
  go_enter Tryz.func320, Tryz.ntmps320
  go_wp2
  go_ret
  exact ⟨rfl, rfl⟩
theorem less_any (b c : Int) (w : World) :
  Calls Tryz.prog 291 #[.int .i64 b, .int .i64 c] w fun e w' => e = .returned (.int .i64 (iless b c)) ∧ w' = w := by
 unfold iless
 by_cases h : b < c
 ·have h1 : decide (b < c) = true := by simp [h]
  rw [if_pos h]
  go_enter Tryz.func291, Tryz.ntmps291
  go_wp2_with (go_at_call 320; refine (number_any true _).mono ?_; rintro e w' ⟨rfl, rfl⟩)
  go_ret
  exact ⟨rfl, rfl⟩
 ·have h1 : decide (b < c) = false := by simp; omega
  rw [if_neg h]
  go_enter Tryz.func291, Tryz.ntmps291
  go_wp2_with (go_at_call 320; refine (number_any false _).mono ?_; rintro e w' ⟨rfl, rfl⟩)
  go_ret
  exact ⟨rfl, rfl⟩
theorem equal_any (b c : Int) (w : World) :
  Calls Tryz.prog 292 #[.int .i64 b, .int .i64 c] w fun e w' => e = .returned (.int .i64 (iequal b c)) ∧ w' = w := by
 unfold iequal
 by_cases h : b = c
 ·have h1 : (b == c) = true := by simp [h]
  rw [if_pos h]
  clear h
  go_enter Tryz.func292, Tryz.ntmps292
  go_wp2_with (go_at_call 320; refine (number_any true _).mono ?_; rintro e w' ⟨rfl, rfl⟩)
  go_ret
  exact ⟨rfl, rfl⟩
 ·have h1 : (b == c) = false := by simp [h]
  rw [if_neg h]
  go_enter Tryz.func292, Tryz.ntmps292
  go_wp2_with (go_at_call 320; refine (number_any false _).mono ?_; rintro e w' ⟨rfl, rfl⟩)
  go_ret
  exact ⟨rfl, rfl⟩
end Go.Proofs.YthnjeejnnhadeaaGreatDoor.Alu

namespace Go.Proofs.YthnjeejnnhadeaaGreatDoor.Alu
open Go.RowKit
set_option maxRecDepth 100000 in
set_option maxHeartbeats 1000000 in
theorem do_add (b c : Int) (w : World) :
  Calls Tryz.prog 215 #[.int .i64 3, .int .i64 b, .int .i64 c] w fun e w' => e = .returned (.tuple #[.int .i64 (iadd b c), .int .i64 0]) ∧ Below w.heap.size w w' := by
 have hz := zero31
 have hb1 : tabA.size = 12 := rfl
 have hb2 : nil12.size = 12 := rfl
 go_enter Tryz.func215, Tryz.ntmps215
 go_wp2_with fail
 refine (functions_any _).mono ?_
 rintro e w1 ⟨rfl, h1⟩
 obtain ⟨W, hst, hrow, hbw⟩ := store31 w1
 have hc : W.cell? ⟨w1.heap.size, 0, none⟩ = some (.func (.func 281) #[] #[]) := by rw [cell_of_row W _ _ tabA 313 (0, 0) hrow]; rfl
 have hB : Below w.heap.size w W := h1.trans (hbw.mono h1.size)
 clear hrow hbw h1
 go_wp2_with (go_at_call 281; refine (add_any b c _).mono ?_; rintro e w' ⟨rfl, rfl⟩)
 go_ret2
 exact ⟨rfl, hB⟩
set_option maxRecDepth 100000 in
set_option maxHeartbeats 1000000 in
theorem do_sub (b c : Int) (w : World) :
  Calls Tryz.prog 215 #[.int .i64 4, .int .i64 b, .int .i64 c] w fun e w' => e = .returned (.tuple #[.int .i64 (isub b c), .int .i64 0]) ∧ Below w.heap.size w w' := by
 have hz := zero31
 have hb1 : tabA.size = 12 := rfl
 have hb2 : nil12.size = 12 := rfl
 go_enter Tryz.func215, Tryz.ntmps215
 go_wp2_with fail
 refine (functions_any _).mono ?_
 rintro e w1 ⟨rfl, h1⟩
 obtain ⟨W, hst, hrow, hbw⟩ := store31 w1
 have hc : W.cell? ⟨w1.heap.size, 1, none⟩ = some (.func (.func 282) #[] #[]) := by rw [cell_of_row W _ _ tabA 313 (0, 0) hrow]; rfl
 have hB : Below w.heap.size w W := h1.trans (hbw.mono h1.size)
 clear hrow hbw h1
 go_wp2_with (go_at_call 282; refine (sub_any b c _).mono ?_; rintro e w' ⟨rfl, rfl⟩)
 go_ret2
 exact ⟨rfl, hB⟩
set_option maxRecDepth 100000 in
set_option maxHeartbeats 1000000 in
theorem do_mul (b c : Int) (w : World) :
  Calls Tryz.prog 215 #[.int .i64 5, .int .i64 b, .int .i64 c] w fun e w' => e = .returned (.tuple #[.int .i64 (imul b c), .int .i64 0]) ∧ Below w.heap.size w w' := by
 have hz := zero31
 have hb1 : tabA.size = 12 := rfl
 have hb2 : nil12.size = 12 := rfl
 go_enter Tryz.func215, Tryz.ntmps215
 go_wp2_with fail
 refine (functions_any _).mono ?_
 rintro e w1 ⟨rfl, h1⟩
 obtain ⟨W, hst, hrow, hbw⟩ := store31 w1
 have hc : W.cell? ⟨w1.heap.size, 2, none⟩ = some (.func (.func 283) #[] #[]) := by rw [cell_of_row W _ _ tabA 313 (0, 0) hrow]; rfl
 have hB : Below w.heap.size w W := h1.trans (hbw.mono h1.size)
 clear hrow hbw h1
 go_wp2_with (go_at_call 283; refine (mul_any b c _).mono ?_; rintro e w' ⟨rfl, rfl⟩)
 go_ret2
 exact ⟨rfl, hB⟩
set_option maxRecDepth 100000 in
set_option maxHeartbeats 1000000 in
theorem do_div (b c : Int) (w : World) :
  Calls Tryz.prog 215 #[.int .i64 6, .int .i64 b, .int .i64 c] w fun e w' => e = .returned (.tuple #[.int .i64 (idiv b c), .int .i64 0]) ∧ Below w.heap.size w w' := by
 have hz := zero31
 have hb1 : tabA.size = 12 := rfl
 have hb2 : nil12.size = 12 := rfl
 go_enter Tryz.func215, Tryz.ntmps215
 go_wp2_with fail
 refine (functions_any _).mono ?_
 rintro e w1 ⟨rfl, h1⟩
 obtain ⟨W, hst, hrow, hbw⟩ := store31 w1
 have hc : W.cell? ⟨w1.heap.size, 3, none⟩ = some (.func (.func 284) #[] #[]) := by rw [cell_of_row W _ _ tabA 313 (0, 0) hrow]; rfl
 have hB : Below w.heap.size w W := h1.trans (hbw.mono h1.size)
 clear hrow hbw h1
 go_wp2_with (go_at_call 284; refine (div_any b c _).mono ?_; rintro e w' ⟨rfl, rfl⟩)
 go_ret2
 exact ⟨rfl, hB⟩
set_option maxRecDepth 100000 in
set_option maxHeartbeats 1000000 in
theorem do_rem (b c : Int) (w : World) :
  Calls Tryz.prog 215 #[.int .i64 7, .int .i64 b, .int .i64 c] w fun e w' => e = .returned (.tuple #[.int .i64 (irem b c), .int .i64 0]) ∧ Below w.heap.size w w' := by
 have hz := zero31
 have hb1 : tabA.size = 12 := rfl
 have hb2 : nil12.size = 12 := rfl
 go_enter Tryz.func215, Tryz.ntmps215
 go_wp2_with fail
 refine (functions_any _).mono ?_
 rintro e w1 ⟨rfl, h1⟩
 obtain ⟨W, hst, hrow, hbw⟩ := store31 w1
 have hc : W.cell? ⟨w1.heap.size, 4, none⟩ = some (.func (.func 285) #[] #[]) := by rw [cell_of_row W _ _ tabA 313 (0, 0) hrow]; rfl
 have hB : Below w.heap.size w W := h1.trans (hbw.mono h1.size)
 clear hrow hbw h1
 go_wp2_with (go_at_call 285; refine (rem_any b c _).mono ?_; rintro e w' ⟨rfl, rfl⟩)
 go_ret2
 exact ⟨rfl, hB⟩
set_option maxRecDepth 100000 in
set_option maxHeartbeats 1000000 in
theorem do_and (b c : Int) (w : World) :
  Calls Tryz.prog 215 #[.int .i64 8, .int .i64 b, .int .i64 c] w fun e w' => e = .returned (.tuple #[.int .i64 (iand b c), .int .i64 0]) ∧ Below w.heap.size w w' := by
 have hz := zero31
 have hb1 : tabA.size = 12 := rfl
 have hb2 : nil12.size = 12 := rfl
 go_enter Tryz.func215, Tryz.ntmps215
 go_wp2_with fail
 refine (functions_any _).mono ?_
 rintro e w1 ⟨rfl, h1⟩
 obtain ⟨W, hst, hrow, hbw⟩ := store31 w1
 have hc : W.cell? ⟨w1.heap.size, 5, none⟩ = some (.func (.func 286) #[] #[]) := by rw [cell_of_row W _ _ tabA 313 (0, 0) hrow]; rfl
 have hB : Below w.heap.size w W := h1.trans (hbw.mono h1.size)
 clear hrow hbw h1
 go_wp2_with (go_at_call 286; refine (and_any b c _).mono ?_; rintro e w' ⟨rfl, rfl⟩)
 go_ret2
 exact ⟨rfl, hB⟩
set_option maxRecDepth 100000 in
set_option maxHeartbeats 1000000 in
theorem do_or (b c : Int) (w : World) :
  Calls Tryz.prog 215 #[.int .i64 9, .int .i64 b, .int .i64 c] w fun e w' => e = .returned (.tuple #[.int .i64 (ior b c), .int .i64 0]) ∧ Below w.heap.size w w' := by
 have hz := zero31
 have hb1 : tabA.size = 12 := rfl
 have hb2 : nil12.size = 12 := rfl
 go_enter Tryz.func215, Tryz.ntmps215
 go_wp2_with fail
 refine (functions_any _).mono ?_
 rintro e w1 ⟨rfl, h1⟩
 obtain ⟨W, hst, hrow, hbw⟩ := store31 w1
 have hc : W.cell? ⟨w1.heap.size, 6, none⟩ = some (.func (.func 287) #[] #[]) := by rw [cell_of_row W _ _ tabA 313 (0, 0) hrow]; rfl
 have hB : Below w.heap.size w W := h1.trans (hbw.mono h1.size)
 clear hrow hbw h1
 go_wp2_with (go_at_call 287; refine (or_any b c _).mono ?_; rintro e w' ⟨rfl, rfl⟩)
 go_ret2
 exact ⟨rfl, hB⟩
set_option maxRecDepth 100000 in
set_option maxHeartbeats 1000000 in
theorem do_xor (b c : Int) (w : World) :
  Calls Tryz.prog 215 #[.int .i64 10, .int .i64 b, .int .i64 c] w fun e w' => e = .returned (.tuple #[.int .i64 (ixor b c), .int .i64 0]) ∧ Below w.heap.size w w' := by
 have hz := zero31
 have hb1 : tabA.size = 12 := rfl
 have hb2 : nil12.size = 12 := rfl
 go_enter Tryz.func215, Tryz.ntmps215
 go_wp2_with fail
 refine (functions_any _).mono ?_
 rintro e w1 ⟨rfl, h1⟩
 obtain ⟨W, hst, hrow, hbw⟩ := store31 w1
 have hc : W.cell? ⟨w1.heap.size, 7, none⟩ = some (.func (.func 288) #[] #[]) := by rw [cell_of_row W _ _ tabA 313 (0, 0) hrow]; rfl
 have hB : Below w.heap.size w W := h1.trans (hbw.mono h1.size)
 clear hrow hbw h1
 go_wp2_with (go_at_call 288; refine (xor_any b c _).mono ?_; rintro e w' ⟨rfl, rfl⟩)
 go_ret2
 exact ⟨rfl, hB⟩
set_option maxRecDepth 100000 in
set_option maxHeartbeats 1000000 in
theorem do_shl (b c : Int) (w : World) :
  Calls Tryz.prog 215 #[.int .i64 11, .int .i64 b, .int .i64 c] w fun e w' => e = .returned (.tuple #[.int .i64 (ishl b c), .int .i64 0]) ∧ Below w.heap.size w w' := by
 have hz := zero31
 have hb1 : tabA.size = 12 := rfl
 have hb2 : nil12.size = 12 := rfl
 go_enter Tryz.func215, Tryz.ntmps215
 go_wp2_with fail
 refine (functions_any _).mono ?_
 rintro e w1 ⟨rfl, h1⟩
 obtain ⟨W, hst, hrow, hbw⟩ := store31 w1
 have hc : W.cell? ⟨w1.heap.size, 8, none⟩ = some (.func (.func 289) #[] #[]) := by rw [cell_of_row W _ _ tabA 313 (0, 0) hrow]; rfl
 have hB : Below w.heap.size w W := h1.trans (hbw.mono h1.size)
 clear hrow hbw h1
 go_wp2_with (go_at_call 289; refine (shl_any b c _).mono ?_; rintro e w' ⟨rfl, rfl⟩)
 go_ret2
 exact ⟨rfl, hB⟩
set_option maxRecDepth 100000 in
set_option maxHeartbeats 1000000 in
theorem do_shr (b c : Int) (w : World) :
  Calls Tryz.prog 215 #[.int .i64 12, .int .i64 b, .int .i64 c] w fun e w' => e = .returned (.tuple #[.int .i64 (ishr b c), .int .i64 0]) ∧ Below w.heap.size w w' := by
 have hz := zero31
 have hb1 : tabA.size = 12 := rfl
 have hb2 : nil12.size = 12 := rfl
 go_enter Tryz.func215, Tryz.ntmps215
 go_wp2_with fail
 refine (functions_any _).mono ?_
 rintro e w1 ⟨rfl, h1⟩
 obtain ⟨W, hst, hrow, hbw⟩ := store31 w1
 have hc : W.cell? ⟨w1.heap.size, 9, none⟩ = some (.func (.func 290) #[] #[]) := by rw [cell_of_row W _ _ tabA 313 (0, 0) hrow]; rfl
 have hB : Below w.heap.size w W := h1.trans (hbw.mono h1.size)
 clear hrow hbw h1
 go_wp2_with (go_at_call 290; refine (shr_any b c _).mono ?_; rintro e w' ⟨rfl, rfl⟩)
 go_ret2
 exact ⟨rfl, hB⟩
set_option maxRecDepth 100000 in
set_option maxHeartbeats 1000000 in
theorem do_less (b c : Int) (w : World) :
  Calls Tryz.prog 215 #[.int .i64 13, .int .i64 b, .int .i64 c] w fun e w' => e = .returned (.tuple #[.int .i64 (iless b c), .int .i64 0]) ∧ Below w.heap.size w w' := by
 have hz := zero31
 have hb1 : tabA.size = 12 := rfl
 have hb2 : nil12.size = 12 := rfl
 go_enter Tryz.func215, Tryz.ntmps215
 go_wp2_with fail
 refine (functions_any _).mono ?_
 rintro e w1 ⟨rfl, h1⟩
 obtain ⟨W, hst, hrow, hbw⟩ := store31 w1
 have hc : W.cell? ⟨w1.heap.size, 10, none⟩ = some (.func (.func 291) #[] #[]) := by rw [cell_of_row W _ _ tabA 313 (0, 0) hrow]; rfl
 have hB : Below w.heap.size w W := h1.trans (hbw.mono h1.size)
 clear hrow hbw h1
 go_wp2_with (go_at_call 291; refine (less_any b c _).mono ?_; rintro e w' ⟨rfl, rfl⟩)
 go_ret2
 exact ⟨rfl, hB⟩
set_option maxRecDepth 100000 in
set_option maxHeartbeats 1000000 in
theorem do_equal (b c : Int) (w : World) :
  Calls Tryz.prog 215 #[.int .i64 14, .int .i64 b, .int .i64 c] w fun e w' => e = .returned (.tuple #[.int .i64 (iequal b c), .int .i64 0]) ∧ Below w.heap.size w w' := by
 have hz := zero31
 have hb1 : tabA.size = 12 := rfl
 have hb2 : nil12.size = 12 := rfl
 go_enter Tryz.func215, Tryz.ntmps215
 go_wp2_with fail
 refine (functions_any _).mono ?_
 rintro e w1 ⟨rfl, h1⟩
 obtain ⟨W, hst, hrow, hbw⟩ := store31 w1
 have hc : W.cell? ⟨w1.heap.size, 11, none⟩ = some (.func (.func 292) #[] #[]) := by rw [cell_of_row W _ _ tabA 313 (0, 0) hrow]; rfl
 have hB : Below w.heap.size w W := h1.trans (hbw.mono h1.size)
 clear hrow hbw h1
 go_wp2_with (go_at_call 292; refine (equal_any b c _).mono ?_; rintro e w' ⟨rfl, rfl⟩)
 go_ret2
 exact ⟨rfl, hB⟩
set_option maxHeartbeats 1000000 in
theorem do_above (op b c : Int) (h : 14 < op) (w : World) :
  Calls Tryz.prog 215 #[.int .i64 op, .int .i64 b, .int .i64 c] w fun e w' => e = .returned (.tuple #[.int .i64 0, .int .i64 9]) ∧ Below w.heap.size w w' := by
 have h1 : decide (op < 3) = false := by simp; omega
 go_enter Tryz.func215, Tryz.ntmps215
 go_wp2
 go_ret2
 exact ⟨rfl, Below.refl _ _⟩
end Go.Proofs.YthnjeejnnhadeaaGreatDoor.Alu

namespace Go.Proofs.YthnjeejnnhadeaaGreatDoor.Alu
open Go.RowKit
end Go.Proofs.YthnjeejnnhadeaaGreatDoor.Alu

namespace Go.Proofs.YthnjeejnnhadeaaGreatDoor.Alu
open Go.RowKit
end Go.Proofs.YthnjeejnnhadeaaGreatDoor.Alu
