/- The answers that the document fixes; TableNames. -/
import Derived.Test.YtaikeeidjfcijaaW7
namespace Go.Proofs.Ytaikeeidjfcijaa
open Go.RowKit Go.Maps

theorem below_draw {w w' : World} (h : ∃ n, w' = w.drewN n) : Below w.heap.size w w' := by
  obtain ⟨n, rfl⟩ := h
  exact below_drewN (Below.refl _ _) n

theorem below_step {a b c : World} (h : Below a.heap.size a b) (k : Below b.heap.size b c) : Below a.heap.size a c := h.trans (k.mono h.size)

/-- Cells that were laid just now. -/
theorem cells_new (w : World) (cs : Array Value) (t : TypeId) : Cells (w.alloc (.cells cs t)) (some ⟨w.heap.size, 0, none⟩) cs.toList := fun _ => by
  refine ⟨_, _, rfl, fun i u hu => ?_⟩
  have : cs[i]? = some u := by simpa using hu
  simp [this]

theorem ex_getD : ∀ i, [0, 1, 2, 3, 8].getD i 0 < 18446744073709551616 := by
  intro i
  rcases i with _ | _ | _ | _ | _ | i <;> simp

set_option maxRecDepth 100000 in
set_option maxHeartbeats 2000000 in
theorem awake_any (w : World) : Calls Try.prog 8 #[] w fun e w' => e = .returned (.bool true) ∧ Below w.heap.size w w' := by
  go_enter Try.func8, Try.ntmps8
  go_wp2_with fail
  refine (new_yes _ _ [0, 1, 2, 3, 8] _ (cells_new w _ _) (by decide) ex_getD).mono ?_
  rintro e w1 ⟨tb, lb, cp, mb, rfl, T1, hb1⟩
  have B1 : Below w.heap.size w w1 := below_step ((Below.refl _ _).alloc (Nat.le_refl _) _) hb1
  clear hb1
  go_wp2_with fail
  refine (len_any T1).mono ?_
  rintro e w1 ⟨rfl, rfl⟩
  go_wp2_with fail
  refine (tflows_any T1 1 3).mono ?_
  rintro e w2 ⟨rfl, hd⟩
  have T2 := T1.kept (below_draw hd)
  have B2 := below_step B1 (below_draw hd)
  have h13 : tflows [0, 1, 2, 3, 8] 1 3 = true := by decide
  clear hd
  rw [h13]
  go_wp2_with fail
  refine (tflows_any T2 1 2).mono ?_
  rintro e w3 ⟨rfl, hd⟩
  have T3 := T2.kept (below_draw hd)
  have B3 := below_step B2 (below_draw hd)
  have h12 : tflows [0, 1, 2, 3, 8] 1 2 = false := by decide
  clear hd
  rw [h12]
  go_wp2_with fail
  refine (label_yes T3 3 (by decide)).mono ?_
  rintro e w3 ⟨rfl, rfl⟩
  go_wp2_with fail
  refine (index_any T3 8 (by decide)).mono ?_
  rintro e w3 ⟨rfl, rfl⟩
  go_wp2_with fail
  refine (index_any T3 4 (by decide)).mono ?_
  rintro e w3 ⟨rfl, rfl⟩
  go_wp2_with fail
  refine (down_any T3 10 (by decide)).mono ?_
  rintro e w4 ⟨v, rfl, ho, hb⟩
  have T4 := T3.kept hb
  have B4 := below_step B3 hb
  obtain ⟨a1, c1, rfl, hC1, _, _⟩ := cells_of_owns ho
  clear ho hb
  go_wp2_with fail
  refine (sameInts_yes _ _ _ _ [0, 2, 4] _ (hC1.kept ((Below.refl _ _).alloc (Nat.le_refl _) _)) (cells_new w4 _ _) (by decide)).mono ?_
  rintro e w5 ⟨rfl, hd⟩
  have hb5 : Below w4.heap.size w4 w5 := below_step ((Below.refl _ _).alloc (Nat.le_refl _) _) (below_draw hd)
  have T5 := T4.kept hb5
  have B5 := below_step B4 hb5
  clear hd
  go_wp2_with fail
  refine (up_any T5 1).mono ?_
  rintro e w6 ⟨v, rfl, ho, hb⟩
  have T6 := T5.kept hb
  have B6 := below_step B5 hb
  obtain ⟨a2, c2, rfl, hC2, _, _⟩ := cells_of_owns ho
  clear ho hb
  go_wp2_with fail
  refine (sameInts_yes _ _ _ _ [1, 3] _ (hC2.kept ((Below.refl _ _).alloc (Nat.le_refl _) _)) (cells_new w6 _ _) (by decide)).mono ?_
  rintro e w7 ⟨rfl, hd⟩
  have B7 := below_step B6 (below_step ((Below.refl _ _).alloc (Nat.le_refl _) _) (below_draw hd))
  clear hd
  go_wp2
  go_ret
  exact ⟨rfl, B7⟩

set_option maxHeartbeats 1000000 in
theorem tableNames_walk (w : World) : Calls Try.prog 3 #[] w fun e w' => e = .returned (.bool true) ∧ Below w.heap.size w w' := by
  go_enter Try.func3, Try.ntmps3
  go_wp2_with (go_at_call 8; refine (awake_any _).mono ?_; rintro e w' ⟨rfl, hb⟩)
  go_ret
  exact ⟨rfl, hb⟩
end Go.Proofs.Ytaikeeidjfcijaa
