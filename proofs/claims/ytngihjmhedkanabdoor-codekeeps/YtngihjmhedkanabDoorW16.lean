/- Some answers that the document fixes; the first ones of too many. -/
import Derived.Test.YtngihjmhedkanabDoorW15
namespace Go.Proofs.YtngihjmhedkanabDoor
open Go.RowKit

def awL : List Ins := [⟨1, 1, 0, 0, 258⟩, ⟨22, 0, 0, 0, 0⟩]
def awB : List Nat := [1, 1, 0, 0, 2, 1, 0, 0, 0, 0, 0, 0, 22, 0, 0, 0, 0, 0, 0, 0, 0, 0, 0, 0]
def awC : List Nat := [1, 8, 0, 0, 0, 0, 0, 0, 0, 0, 0, 0]
theorem aw_may : (mayL awL 8).1 = 0 := by decide
theorem aw_enc : encB awL = awB := by decide
theorem aw_dec : decR awB = (0, 0) := by decide +kernel
theorem aw_get : decL awB 2 = awL := by unfold decL; simp [List.range_succ, awL, getI, awB, sumB, wrap64]
theorem aw_bad : decR awC = (10, 1) := by decide +kernel

theorem lt_bytes {l : List Nat} (h : l.all (fun b => decide (b < 256)) = true) (i : Nat) : l.getD i 0 < 256 := by
  rw [List.getD_eq_getElem?_getD]
  cases hi : l[i]? with
  | none => simp
  | some x => simpa using List.all_eq_true.1 h x (List.mem_of_getElem? hi)

theorem decPost_ok {w : World} {bs : List Nat} {e : Ending} {w' : World} (h : DecPost w bs e w') (hr : (decR bs).1 = 0) :
    ∃ g cap', e = .returned (.tuple #[.slice (some ⟨g, 0, none⟩) (bs.length / 12) cap', .int .i64 0, .int .i64 0]) ∧ w'.ownsRow w.heap.size 27 5 (.slice (some ⟨g, 0, none⟩) (bs.length / 12) cap') (bs.length / 12) (pCells (decL bs (bs.length / 12))) ∧ Below w.heap.size w w' := by
  rcases h with ⟨_, h⟩ | ⟨h, _⟩
  · exact h
  · exact absurd hr h
theorem decPost_no {w : World} {bs : List Nat} {e : Ending} {w' : World} (h : DecPost w bs e w') (hr : (decR bs).1 ≠ 0) :
    e = .returned (.tuple #[.slice none 0 0, .int .i64 (decR bs).1, .int .i64 (decR bs).2]) ∧ Below w.heap.size w w' := by
  rcases h with ⟨h, _⟩ | ⟨_, h⟩
  · exact absurd h hr
  · exact h

theorem ins_of_cells {w : World} {b o : Nat} {x : Ins} (h : ∀ r, r < 5 → w.cell? ⟨b, o + r, none⟩ = (insCells x)[r]?) : InsAt w b o x := ⟨h 0 (by omega), h 1 (by omega), h 2 (by omega), h 3 (by omega), h 4 (by omega)⟩

set_option maxRecDepth 100000 in
set_option maxHeartbeats 4000000 in
theorem awake_any (w : World) (hF : Fld w) :
    Calls Tryd.prog 4 #[] w fun e w' => e = .returned (.bool true) ∧ Below w.heap.size w w' := by
  have HF : Hid (Fld w) := hF
  clear hF
  go_enter Tryd.func4, Tryd.ntmps4
  go_wp2_with fail
  obtain ⟨W1, hW1⟩ : ∃ W, Hid (W = w.alloc (.cells (pCells awL).toArray 27)) := ⟨_, rfl⟩
  have b1 : Below w.heap.size w W1 := by rw [hW1.out]; exact (Below.refl _ _).alloc (Nat.le_refl _) _
  have P1 : Prg W1 (some ⟨w.heap.size, 0, none⟩) awL := fun i hi => ⟨w.heap.size, 0, rfl, ins_of_cells (fun r hr => by
    rw [hW1.out, cell_of_row _ _ _ (pCells awL).toArray 27 (0, 0) (heap_alloc_new w _)]
    rw [Nat.zero_add, List.getElem?_toArray]
    exact pCells_at awL i r hi hr)⟩
  have hs1 := b1.size
  show Calls _ _ _ (w.alloc (.cells (pCells awL).toArray 27)) _
  rw [← hW1.out]
  clear hW1
  refine (show Calls Tryd.prog 10 #[.slice (some ⟨w.heap.size, 0, none⟩) 2 2] W1 _ from encode_ok (some ⟨w.heap.size, 0, none⟩) 2 awL W1 P1 (HF.out.kept b1) aw_may).mono ?_
  rintro e w2 ⟨g, cb, rfl, o2, b2⟩
  rw [aw_enc] at o2
  have o2 : w2.ownsRow W1.heap.size 5 1 (.slice (some ⟨g, 0, none⟩) 24 cb) 24 (bCells awB) := o2
  have P2 := P1.kept b2
  have bw2 := b1.trans (b2.mono hs1)
  clear P1 b1 b2 hs1
  have B2 := byt_of_owns o2
  go_wp2_with fail
  refine (show Calls Tryd.prog 11 #[.slice (some ⟨g, 0, none⟩) 24 cb] w2 _ from decode_any (some ⟨g, 0, none⟩) cb awB w2 B2.1 (HF.out.kept bw2) (lt_bytes (by decide)) (by have := B2.2.2; exact this)).mono ?_
  intro e w3 h3
  obtain ⟨g3, c3, rfl, o3, b3⟩ := decPost_ok h3 (by rw [aw_dec])
  clear h3 B2
  have o3 : w3.ownsRow w2.heap.size 27 5 (.slice (some ⟨g3, 0, none⟩) 2 c3) 2 (pCells (decL awB 2)) := o3
  rw [aw_get] at o3
  have P3 := P2.kept b3
  have o3b := owns_below o2 b3
  have bw3 := bw2.trans (b3.mono bw2.size)
  clear o2 P2 b3 bw2
  go_wp2_with fail
  obtain ⟨W4, hW4⟩ : ∃ W, Hid (W = w3.alloc (.cells (bCells awC).toArray 5)) := ⟨_, rfl⟩
  have b4 : Below w3.heap.size w3 W4 := by rw [hW4.out]; exact (Below.refl _ _).alloc (Nat.le_refl _) _
  have B4 : Byt W4 (some ⟨w3.heap.size, 0, none⟩) awC := fun i hi => ⟨w3.heap.size, 0, rfl, by
    rw [hW4.out, cell_of_row _ _ _ (bCells awC).toArray 5 (0, 0) (heap_alloc_new w3 _)]
    rw [Nat.zero_add, List.getElem?_toArray]
    simp [bCells, List.getD_eq_getElem?_getD, hi]⟩
  show Calls _ _ _ (w3.alloc (.cells (bCells awC).toArray 5)) _
  rw [← hW4.out]
  clear hW4
  have P4 := P3.kept b4
  have o4 := owns_below o3 b4
  have o4b := owns_below o3b b4
  have bw4 := bw3.trans (b4.mono bw3.size)
  clear P3 o3 o3b bw3 b4
  refine (show Calls Tryd.prog 11 #[.slice (some ⟨w3.heap.size, 0, none⟩) 12 12] W4 _ from decode_any (some ⟨w3.heap.size, 0, none⟩) 12 awC W4 B4 (HF.out.kept bw4) (lt_bytes (by decide)) (by decide)).mono ?_
  intro e w5 h5
  obtain ⟨rfl, b5⟩ := decPost_no h5 (by rw [aw_bad]; decide)
  clear h5 B4
  rw [aw_bad]
  have P5 := P4.kept b5
  have o5 := owns_below o4 b5
  have o5b := owns_below o4b b5
  have bw5 := bw4.trans (b5.mono bw4.size)
  clear P4 o4 o4b bw4 b5
  have Q5 := (prg_of_owns o5).1
  have hsame := same_yes (some ⟨g3, 0, none⟩) (some ⟨w.heap.size, 0, none⟩) c3 2 awL w5 (by decide) Q5 P5
  have k4 : w5.cell? ⟨g, 4, none⟩ = some (.int .u8 2) := by rw [o5b.cellAt 4 (by omega)]; rfl
  have k5 : w5.cell? ⟨g, 5, none⟩ = some (.int .u8 1) := by rw [o5b.cellAt 5 (by omega)]; rfl
  have k12 : w5.cell? ⟨g, 12, none⟩ = some (.int .u8 22) := by rw [o5b.cellAt 12 (by omega)]; rfl
  obtain ⟨bx, ox, ebx, X⟩ := P5 1 (by decide)
  simp at ebx
  obtain ⟨rfl, rfl⟩ := ebx
  have hfl := fields_any 23 w5 (HF.out.kept bw5)
  have hck : ∀ n, _ := fun n => check_any ⟨22, 0, 0, 0, 0⟩ 0 0 (w5.drewN n) (HF.out.kept (below_drewN bw5 n))
  clear o5 o5b Q5 P5 HF
  go_wp2_with fail
  refine hfl.mono ?_
  rintro e w6 ⟨rfl, rfl⟩
  go_wp2_with fail
  refine (show Calls Tryd.prog 15 #[.slice (some ⟨g3, 0, none⟩) 2 c3, .slice (some ⟨w.heap.size, 0, none⟩) 2 2] w6 _ from hsame).mono ?_
  rintro e w7 ⟨rfl, n, rfl⟩
  obtain ⟨W8, hW8⟩ : ∃ W, Hid (W = w6.drewN n) := ⟨_, rfl⟩
  have X8 : InsAt W8 w.heap.size 5 ⟨22, 0, 0, 0, 0⟩ := by rw [hW8.out]; exact ⟨X.c0, X.c1, X.c2, X.c3, X.c4⟩
  have hck := hck n
  rw [← hW8.out] at hck ⊢
  have bw8 : Below w.heap.size w W8 := by rw [hW8.out]; exact below_drewN bw5 n
  clear hW8 X hsame hfl
  obtain ⟨x0, x1, x2, x3, x4⟩ := X8
  simp only at x0 x1 x2 x3 x4
  unfold insV at hck
  rw [show (wrong ⟨22, 0, 0, 0, 0⟩ 0 0).1 = 0 by decide] at hck
  go_wp2_with fail
  refine hck.mono ?_
  rintro e w9 ⟨rfl, b9⟩
  go_wp2_with fail
  go_ret
  exact ⟨rfl, bw8.trans (b9.mono bw8.size)⟩

theorem short_any (a : Option Addr) (n cap : Nat) (w : World) (h : n ≤ cap) :
    Calls Tryd.prog 5 #[.slice a n cap] w fun e w' => e = .returned (.slice a (min n 1048576) (min n 1048576)) ∧ w' = w := by
  by_cases h1 : n ≤ 1048576
  · rw [Nat.min_eq_left h1]
    by_cases h2 : n = 1048576
    · subst h2
      go_enter Tryd.func5, Tryd.ntmps5
      go_wp2_with fail
      go_ret
      exact ⟨rfl, rfl⟩
    · have d1 : (n : Int) < 1048576 := by omega
      go_enter Tryd.func5, Tryd.ntmps5
      go_wp2_with fail
      go_ret
      exact ⟨rfl, rfl⟩
  · rw [Nat.min_eq_right (by omega)]
    have d1 : (1048576 : Int) < (n : Int) := by omega
    have d2 : 1048576 ≤ cap := by omega
    go_enter Tryd.func5, Tryd.ntmps5
    go_wp2_with fail
    go_ret
    exact ⟨rfl, rfl⟩
end Go.Proofs.YtngihjmhedkanabDoor
