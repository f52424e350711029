/- The calls whose answers the document fixes; long. -/
import Derived.Test.YtcececjnndhalaaW9
namespace Go.Proofs.Ytcececjnndhalaa
open Go.RowKit

def T5 : List Int := [0, 1, 0, 0, 2]

theorem isGap_check {l : List Int} {p : Int} {g : Nat} (hp : 0 < l.length) (hc : 0 < cnt l p) (h0 : 0 < g) (hk : g ≤ l.length) (ha : ∀ f, f < l.length → ∃ j, j < g ∧ ownN l (f + j) = p) (f : Nat) (hf : ∀ j, j < g → j + 1 < g → ownN l (f + j) ≠ p) : IsGap l p g :=
  .inr ⟨hc, h0, hk, fun f' => by
    obtain ⟨j, hj, e⟩ := ha (f' % l.length) (Nat.mod_lt _ hp)
    exact ⟨j, hj, by rw [← ownN_shift]; exact e⟩, f, fun j hj => hf j (by omega) hj⟩

theorem T5_ok : NewOk T5 4 := ⟨by decide, by decide, by decide, by decide, by
  intro i hi
  have : ∀ i, i < 5 → 0 ≤ T5.getD i 0 ∧ T5.getD i 0 < 4 := by decide
  exact this i hi⟩
theorem T5_nth : IsNth T5 1 2 1 11 := ⟨by decide, by decide, by decide⟩
theorem T5_gap0 : IsGap T5 0 2 := isGap_check (by decide) (by decide) (by decide) (by decide) (by decide) 1 (by decide)
theorem T5_gap1 : IsGap T5 1 5 := isGap_check (by decide) (by decide) (by decide) (by decide) (by decide) 2 (by decide)
theorem T5_gap3 : IsGap T5 3 0 := .inl ⟨rfl, by decide⟩
theorem T5_count : countN T5 0 0 5 = 3 := by decide
theorem T5_own : ownN T5 6 = 1 := by decide
theorem T5_len : T5.length = 5 := rfl

theorem T5_cells (w : World) (t : TypeId) : Cells (w.alloc (.cells #[.int .i64 0, .int .i64 1, .int .i64 0, .int .i64 0, .int .i64 2] t)) (some ⟨w.heap.size, 0, none⟩) (iCells T5) := fun _ => ⟨w.heap.size, 0, rfl, fun i u hu => by
  rcases i with _ | _ | _ | _ | _ | i
  · simp [iCells, T5] at hu; subst hu; simp
  · simp [iCells, T5] at hu; subst hu; simp
  · simp [iCells, T5] at hu; subst hu; simp
  · simp [iCells, T5] at hu; subst hu; simp
  · simp [iCells, T5] at hu; subst hu; simp
  · simp [iCells, T5] at hu⟩

set_option maxRecDepth 100000 in
set_option maxHeartbeats 1000000 in
theorem fixed_any (w : World) : Calls Try.prog 6 #[] w fun e w' => e = .returned (.bool true) ∧ Below w.heap.size w w' := by
  have hnew := fun t => new_yes _ 5 T5 4 _ (T5_cells w t) T5_ok
  rw [T5_len] at hnew
  go_enter Try.func6, Try.ntmps6
  go_wp2_with fail
  refine (hnew _).mono ?_
  rintro e w1 ⟨sb, lb, cp, rfl, hS, hb, _, _⟩
  have hb1 : Below w.heap.size w w1 := ((Below.refl _ w).alloc (Nat.le_refl _) _).trans (hb.mono (by simp))
  clear hnew hb
  have h1 := nth_any sb lb cp T5 w1 hS 1 2 1 11 (by decide) (by decide) T5_nth
  rw [nthR_near (by decide)] at h1
  have h2 := fun n => len_any sb lb cp T5 (w1.drewN n) (hS.drewN n)
  rw [T5_len] at h2
  have h3 := fun n => owner_any sb lb cp T5 (w1.drewN n) (hS.drewN n) 6 (by decide)
  rw [T5_own] at h3
  have h4 := fun n => gap_any sb lb cp T5 (w1.drewN n) (hS.drewN n) 0 2 T5_gap0
  have h5 := fun n => gap_any sb lb cp T5 (w1.drewN n) (hS.drewN n) 1 5 T5_gap1
  have h6 := fun n => gap_any sb lb cp T5 (w1.drewN n) (hS.drewN n) 3 0 T5_gap3
  have h7 := fun n => count_any sb lb cp T5 (w1.drewN n) (hS.drewN n) 0 0 5 (by decide) (by decide)
  rw [T5_count] at h7
  clear hS
  go_wp2_with fail
  refine h1.mono ?_
  rintro e w2 ⟨rfl, n2, rfl⟩
  go_wp2_with fail
  refine (h2 _).mono ?_
  rintro e w3 ⟨rfl, rfl⟩
  go_wp2_with fail
  refine (h3 _).mono ?_
  rintro e w4 ⟨rfl, n4, rfl⟩
  go_wp2_with fail
  refine (h4 _).mono ?_
  rintro e w5 ⟨rfl, n5, rfl⟩
  go_wp2_with fail
  refine (h5 _).mono ?_
  rintro e w6 ⟨rfl, n6, rfl⟩
  go_wp2_with fail
  refine (h6 _).mono ?_
  rintro e w7 ⟨rfl, n7, rfl⟩
  go_wp2_with fail
  refine (h7 _).mono ?_
  rintro e w8 ⟨rfl, n8, rfl⟩
  go_wp2
  go_ret
  exact ⟨rfl, below_drewN hb1 _⟩

set_option maxHeartbeats 400000 in
theorem long_yes (a : Option Addr) (n cap : Nat) (w : World) (h : 1048576 < n) :
    Calls Try.prog 7 #[.slice a n cap] w fun e w' => e = .returned (.bool true) ∧ w' = w := by
  have h' : (1048576 : Int) < (n : Int) := by omega
  go_enter Try.func7, Try.ntmps7
  go_wp2
  go_ret
  refine ⟨ret_bool ?_, rfl⟩
  simp

set_option maxHeartbeats 400000 in
theorem long_no (a : Option Addr) (n cap : Nat) (w : World) (h : n ≤ 1048576) :
    Calls Try.prog 7 #[.slice a n cap] w fun e w' => e = .returned (.bool false) ∧ w' = w := by
  have h' : decide ((1048576 : Int) < (n : Int)) = false := by simp; omega
  go_enter Try.func7, Try.ntmps7
  go_wp2
  go_ret
  refine ⟨ret_bool ?_, rfl⟩
  simp

end Go.Proofs.Ytcececjnndhalaa
