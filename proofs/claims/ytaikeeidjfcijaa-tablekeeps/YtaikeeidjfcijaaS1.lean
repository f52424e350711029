/- A row of labels that is sorted in place: what is known of it; cmp.Less; the insertion sort. -/
import Derived.Test.YtaikeeidjfcijaaW5
import Derived.Sort.AssemblyPlain
import Derived.BigGuard
import Derived.BigCall
import Derived.BigRegion
import Derived.CellFam
import Derived.Deep.Draws
namespace Go.Proofs.Ytaikeeidjfcijaa
open Go.RowKit Go.Sort

def ltN (x y : Nat) : Bool := decide (x < y)

/-- The call's own row at the block g holds the labels d. -/
structure Row (w : World) (g n cap : Nat) (d : Array Nat) : Prop where
  size : d.size = n
  own : w.ownsRow 0 35 1 (.slice (some ⟨g, 0, none⟩) n cap) n (labCells d.toList)

/-- w' is w but for that row, which now holds d; draws and new blocks aside. -/
structure Now (w : World) (g n cap : Nat) (d : Array Nat) (w' : World) : Prop where
  row : Row w' g n cap d
  grown : w.grownBy w' (some g)
  lt : g < w.heap.size

theorem Row.lt {w : World} {g n cap : Nat} {d : Array Nat} (h : Row w g n cap d) : g < w.heap.size := (h.own.lt g rfl).2

theorem lab_getElem (d : Array Nat) (t : Nat) (h : t < d.size) : (labCells d.toList)[t]? = some (.int .u64 (d[t]! : Nat)) := by
  simp [labCells, h]

theorem Row.cell {w : World} {g n cap : Nat} {d : Array Nat} (h : Row w g n cap d) (t : Nat) (ht : t < n) : w.cell? ⟨g, t, none⟩ = some (.int .u64 (d[t]! : Nat)) := by
  rw [h.own.cellAt t (by omega), lab_getElem d t (by rw [h.size]; exact ht)]
theorem Row.free {w : World} {g n cap : Nat} {d : Array Nat} (h : Row w g n cap d) (t : Nat) : w.frozen? ⟨g, t, none⟩ = false := h.own.frozenAt t

theorem Now.refl {w : World} {g n cap : Nat} {d : Array Nat} (h : Row w g n cap d) : Now w g n cap d w := ⟨h, World.grownBy.refl _ _, h.lt⟩

theorem grownBy_trans {a b c : World} {r : Option Nat} (h : a.grownBy b r) (k : b.grownBy c r) : a.grownBy c r :=
  ⟨k.os.trans h.os, k.tape.trans h.tape, k.output.trans h.output, Nat.le_trans h.size k.size, fun i hi hr => (k.block i (Nat.lt_of_lt_of_le hi h.size) hr).trans (h.block i hi hr)⟩

theorem Now.trans {a b c : World} {g n cap : Nat} {d d' : Array Nat} (h : Now a g n cap d b) (k : Now b g n cap d' c) : Now a g n cap d' c := ⟨k.row, grownBy_trans h.grown k.grown, h.lt⟩

theorem Row.drewN {w : World} {g n cap : Nat} {d : Array Nat} (h : Row w g n cap d) (q : Nat) : Row (w.drewN q) g n cap d := ⟨h.size, h.own⟩
theorem grownBy_drewN (w : World) (q : Nat) (r : Option Nat) : w.grownBy (w.drewN q) r := ⟨rfl, rfl, rfl, Nat.le_refl _, fun _ _ _ => rfl⟩
theorem Now.drewN {w w' : World} {g n cap : Nat} {d : Array Nat} (h : Now w g n cap d w') (q : Nat) : Now w g n cap d (w'.drewN q) := ⟨h.row.drewN q, grownBy_trans h.grown (grownBy_drewN _ _ _), h.lt⟩

theorem Row.alloc {w : World} {g n cap : Nat} {d : Array Nat} (h : Row w g n cap d) (o : Obj) : Row (w.alloc o) g n cap d := ⟨h.size, h.own.alloc o⟩
theorem Now.alloc {w w' : World} {g n cap : Nat} {d : Array Nat} (h : Now w g n cap d w') (o : Obj) : Now w g n cap d (w'.alloc o) := ⟨h.row.alloc o, grownBy_trans h.grown (World.grownBy_alloc _ _ _), h.lt⟩

theorem cells_swp (d : Array Nat) (i j : Nat) :
    ((labCells d.toList).set i (.int .u64 (d[j]! : Nat))).set j (.int .u64 (d[i]! : Nat)) = labCells (swp d i j).toList := by
  simp only [swp, labCells, Array.toList_setIfInBounds, List.map_set]

/-- 'data[i], data[j] = data[j], data[i]'. -/
theorem Now.swap {w w' : World} {g n cap : Nat} {d : Array Nat} (h : Now w g n cap d w') (i j : Nat) :
    Now w g n cap (swp d i j) ((w'.setCell ⟨g, i, none⟩ (.int .u64 (d[j]! : Nat))).setCell ⟨g, j, none⟩ (.int .u64 (d[i]! : Nat))) := by
  have h1 := h.row.own.stored i (.int .u64 (d[j]! : Nat))
  have h2 := h1.1.stored j (.int .u64 (d[i]! : Nat))
  refine ⟨⟨by rw [size_swp]; exact h.row.size, ?_⟩, grownBy_trans (grownBy_trans h.grown h1.2) h2.2, h.lt⟩
  rw [← cells_swp d i j]
  exact h2.1

set_option maxHeartbeats 1000000 in
theorem isNaN_any (x : Int) (w : World) : Calls Try.prog 55 #[.int .u64 x] w fun e w' => e = .returned (.bool false) ∧ w' = w := by
  go_enter Try.func55, Try.ntmps55
  go_wp2
  go_ret
  exact ⟨by simp, rfl⟩

set_option maxHeartbeats 1000000 in
theorem less_any (x y : Nat) (w : World) : Calls Try.prog 45 #[.int .u64 x, .int .u64 y] w fun e w' => e = .returned (.bool (ltN x y)) ∧ w' = w := by
  go_enter Try.func45, Try.ntmps45
  go_wp2_with (go_at_call 55; refine (isNaN_any _ _).mono ?_; rintro e w' ⟨rfl, rfl⟩)
  go_ret
  refine ⟨ret_bool ?_, rfl⟩
  simp [ltN]

theorem insInner_go (a j : Nat) (d : Array Nat) (hj : a < j) (hl : ltN d[j]! d[j - 1]! = true) : insInner ltN a j d = insInner ltN a (j - 1) (swp d j (j - 1)) := by
  obtain ⟨k, rfl⟩ : ∃ k, j = k + 1 := ⟨j - 1, by omega⟩
  rw [Nat.add_sub_cancel] at hl ⊢
  rw [insInner, if_pos (by simp [hj, hl])]
theorem insInner_stop (a j : Nat) (d : Array Nat) (h : j ≤ a ∨ ltN d[j]! d[j - 1]! = false) : insInner ltN a j d = d := by
  cases j with
  | zero => rfl
  | succ k =>
    rw [Nat.add_sub_cancel] at h
    rw [insInner, if_neg]
    rcases h with h | h
    · simp; omega
    · simp [h]

set_option maxRecDepth 100000 in
set_option maxHeartbeats 4000000 in
theorem insertion_any (g n cap a b : Nat) (d : Array Nat) (w : World) (hR : Row w g n cap d) (hab : a ≤ b) (hb : b ≤ n) (hn : n ≤ 4000000) :
    Calls Try.prog 39 #[.slice (some ⟨g, 0, none⟩) n cap, .int .i64 a, .int .i64 b] w fun e w' => e = .returned (.tuple #[]) ∧ Now w g n cap (insertionSort ltN d a b) w' := by
  go_enter Try.func39, Try.ntmps39
  go_wp2
  go_loopw [6] (fun vi wr => ∃ (i : Nat) (dk : Array Nat), vi = .int .i64 i ∧ a < i ∧ i ≤ b + 1 ∧ Now w g n cap dk wr ∧ Hid (insOuter ltN a b i dk = insOuter ltN a b (a + 1) d)) (fun vi _ => b + 1 - (intOf vi).toNat)
  case atStart => exact ⟨a + 1, d, by go_num, by omega, by omega, Now.refl hR, rfl⟩
  case round =>
    obtain ⟨i, dk, rfl, hai, hib, hNk, HO⟩ := hrel
    by_cases hlt : i < b
    · go_wp2
      go_loopw [7] (fun vj wr2 => ∃ (j : Nat) (dj : Array Nat), vj = .int .i64 j ∧ a ≤ j ∧ j ≤ i ∧ Now w g n cap dj wr2 ∧ Hid (insInner ltN a j dj = insInner ltN a i dk)) (fun vj _ => (intOf vj).toNat)
      case atStart => exact ⟨i, dk, rfl, by omega, Nat.le_refl _, hNk, rfl⟩
      case round =>
        clear hNk
        obtain ⟨j, dj, rfl, haj, hji, hN, HI⟩ := hrel
        obtain ⟨G, HG⟩ : ∃ G : Nat → Nat, Hid (∀ t, G t = dj[t]!) := ⟨fun t => dj[t]!, fun _ => rfl⟩
        have hcw : ∀ t, t < n → wr.cell? ⟨g, t, none⟩ = some (.int .u64 (G t : Nat)) := fun t ht => by rw [HG.out]; exact hN.row.cell t ht
        have hfw : ∀ t, t < n → wr.frozen? ⟨g, t, none⟩ = false := fun t _ => hN.row.free t
        have out : Hid ((j ≤ a ∨ ltN dj[j]! dj[j - 1]! = false) → ∀ q, ∃ (i' : Nat) (dk' : Array Nat), Value.int .i64 ((i : Int) + 1) = .int .i64 (i' : Nat) ∧ a < i' ∧ i' ≤ b + 1 ∧ Now w g n cap dk' (wr.drewN q) ∧ Hid (insOuter ltN a b i' dk' = insOuter ltN a b (a + 1) d)) := fun hs q =>
          ⟨i + 1, dj, by go_num, by omega, by omega, hN.drewN q, by show _ = _; rw [← HO.out, insOuter.eq_def ltN a b i, if_pos hlt, ← HI.out, insInner_stop _ _ _ hs]⟩
        go_wp2
        by_cases hja : a < j
        · have hjn : (j : Int) < (n : Int) := by omega
          have hj1 : (1 : Int) ≤ (j : Int) := by omega
          have hx1 := hcw j (by omega)
          have hx2 := hcw (j - 1) (by omega)
          have hf1 := hfw j (by omega)
          have hf2 := hfw (j - 1) (by omega)
          go_quiet (first | (go_at_call 45; refine Calls.quiet_of_same (less_any _ _ _)))
          cases hl : ltN (G j) (G (j - 1))
          · go_wp2
            go_roundw
            case rel => exact out.out (Or.inr (by rw [← HG.out, ← HG.out]; exact hl)) _
            case measure => simp [intOf]; omega
          · go_wp2
            go_region
            all_goals go_wp2
            refine ⟨⟨j - 1, swp dj j (j - 1), by congr 1; omega, by omega, by omega, ?_, ?_⟩, by simp [intOf]; omega⟩
            · rw [HG.out, HG.out]; exact (hN.drewN _).swap j (j - 1)
            · show _ = _
              rw [← HI.out, insInner_go a j dj hja (by rw [← HG.out, ← HG.out]; exact hl)]
        · have hja' : decide ((a : Int) < (j : Int)) = false := decide_eq_false (by omega)
          go_quiet (first | (go_at_call 45; refine Calls.quiet_of_same (less_any _ _ _)))
          go_wp2
          go_roundw
          case rel => exact out.out (Or.inl (by omega)) _
          case measure => simp [intOf]; omega
    · have hge : b ≤ i := by omega
      go_wp2
      go_end0
      exact ⟨rfl, by unfold insertionSort; rw [← HO.out, insOuter.eq_def, if_neg (by omega)]; exact hNk⟩
end Go.Proofs.Ytaikeeidjfcijaa
