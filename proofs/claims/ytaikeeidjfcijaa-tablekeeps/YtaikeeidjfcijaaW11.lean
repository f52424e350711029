/- The document's own Down and Up of a list. -/
import Derived.Test.YtaikeeidjfcijaaW10
namespace Go.Proofs.Ytaikeeidjfcijaa
open Go.RowKit Go.Maps

set_option maxRecDepth 100000 in
set_option maxHeartbeats 1000000 in
theorem rdown_any (a : Option Addr) (cap : Nat) (c : List Nat) (w : World) (hC : Cells w a (labCells c)) (hw : ∀ i, c.getD i 0 < 18446744073709551616) (hlen : c.length ≤ 1000) (q : Nat) (hq : q < 18446744073709551616) :
    Calls Try.prog 27 #[.slice a c.length cap, .int .u64 q] w fun e w' => ∃ v, e = .returned v ∧ w'.ownsRow w.heap.size 3 1 v (downTo c q c.length).length (intCells (downTo c q c.length)) ∧ Below w.heap.size w w' := by
  obtain ⟨i0, hi, hz0, hz1, hz2⟩ := info_parts info3
  go_enter Try.func27, Try.ntmps27
  go_wp2
  go_loopw [5, 6] (fun v i wr => ∃ k : Nat, k ≤ c.length ∧ i = .int .i64 k ∧ wr.ownsRow w.heap.size 3 1 v (downTo c q k).length (intCells (downTo c q k)) ∧ Below w.heap.size w wr) (fun _ i _ => c.length - (intOf i).toNat)
  case atStart => exact ⟨0, Nat.zero_le _, rfl, World.ownsRow_made w #[] 0 (Nat.le_refl _) (Nat.zero_le _) (by simp), (Below.refl _ _).alloc (Nat.le_refl _) _⟩
  case round =>
    obtain ⟨k, hk, rfl, hown, hbel⟩ := hrel
    have hdl := downTo_len c q k
    by_cases hlt : k < c.length
    · obtain ⟨b, off, rfl, hc⟩ := (hC.kept hbel) (lab_ne c k hlt)
      have lk : wr.cell? ⟨b, off + k, none⟩ = some (.int .u64 (c.getD k 0 : Nat)) := hc k _ (lab_at c k hlt)
      have hfl := fun w => rflows_any (c.getD k 0) q (hw k) hq w
      have hlt' : (k : Int) < (c.length : Int) := by omega
      clear hc hC
      cases hr : flowsB (c.getD k 0) q
      · have e : Hid (downTo c q (k + 1) = downTo c q k) := by show _ = _; simp only [downTo]; rw [hr]; rfl
        rw [hr] at hfl
        clear hr
        generalize c.getD k 0 = x at *
        go_wp2_with (first | (go_at_call 35; refine (hfl _).mono ?_; rintro e wr ⟨rfl, rfl⟩))
        go_roundw
        case rel => exact ⟨k + 1, by omega, by go_num, by rw [e.out]; exact hown, hbel⟩
        case measure => simp [intOf]; omega
      · have e : Hid (downTo c q (k + 1) = downTo c q k ++ [k]) := by show _ = _; simp only [downTo]; rw [hr]; rfl
        rw [hr] at hfl
        clear hr
        generalize c.getD k 0 = x at *
        go_wp2_with (first | (go_at_call 35; refine (hfl _).mono ?_; rintro e wr ⟨rfl, rfl⟩) | (at_builtin; refine wpList_append_own _ rfl _ _ 33 rfl w.heap.size 3 i0 (.int .i64 0) 1 8 Try.underlying33 hi hz0 hz1 hz2 rfl (by decide) _ _ _ rfl (hown.alloc _) ⟨wr.heap.size, 0, none⟩ 1 1 [.int .i64 (k : Nat)] rfl rfl (one_cell_at _) (intCells_one k) (by unfold maxLen; omega) (by omega) (by have := hbel.size; simp; omega) ?_; intro v' w1 hown' hgrow _) | go_in)
        go_roundw
        case rel => exact ⟨k + 1, by omega, by go_num, by rw [e.out, List.length_append, intCells, List.map_append]; exact hown', below_append hbel hbel.size hown hgrow⟩
        case measure => simp [intOf]; omega
    · have e : k = c.length := by omega
      subst e
      go_wp2
      go_ret
      exact ⟨_, rfl, hown, hbel⟩

set_option maxRecDepth 100000 in
set_option maxHeartbeats 1000000 in
theorem rup_any (a : Option Addr) (cap : Nat) (c : List Nat) (w : World) (hC : Cells w a (labCells c)) (hw : ∀ i, c.getD i 0 < 18446744073709551616) (hlen : c.length ≤ 1000) (q : Int) :
    Calls Try.prog 21 #[.slice a c.length cap, .int .i64 q] w fun e w' => ∃ v, e = .returned v ∧ w'.ownsRow w.heap.size 3 1 v (upTo c q c.length).length (intCells (upTo c q c.length)) ∧ Below w.heap.size w w' := by
  obtain ⟨i0, hi, hz0, hz1, hz2⟩ := info_parts info3
  go_enter Try.func21, Try.ntmps21
  go_wp2
  go_loopw [5, 6] (fun v i wr => ∃ k : Nat, k ≤ c.length ∧ i = .int .i64 k ∧ wr.ownsRow w.heap.size 3 1 v (upTo c q k).length (intCells (upTo c q k)) ∧ Below w.heap.size w wr) (fun _ i _ => c.length - (intOf i).toNat)
  case atStart => exact ⟨0, Nat.zero_le _, rfl, World.ownsRow_made w #[] 0 (Nat.le_refl _) (Nat.zero_le _) (by simp), (Below.refl _ _).alloc (Nat.le_refl _) _⟩
  case round =>
    obtain ⟨k, hk, rfl, hown, hbel⟩ := hrel
    have hdl := upTo_len c q k
    by_cases hlt : k < c.length
    · have hfl := rtflows_any a cap c wr (hC.kept hbel) hw q (k : Nat)
      have hlt' : (k : Int) < (c.length : Int) := by omega
      cases hr : tflows c q (k : Nat)
      · have e : Hid (upTo c q (k + 1) = upTo c q k) := by show _ = _; simp only [upTo]; rw [hr]; rfl
        rw [hr] at hfl
        clear hr
        go_wp2_with (first | (go_at_call 23; refine hfl.mono ?_; rintro e w2 ⟨rfl, hd⟩))
        have hk2 := drewN_keeps hd hbel hown
        go_roundw
        case rel => exact ⟨k + 1, by omega, by go_num, by rw [e.out]; exact hk2.2, hk2.1⟩
        case measure => simp [intOf]; omega
      · have e : Hid (upTo c q (k + 1) = upTo c q k ++ [k]) := by show _ = _; simp only [upTo]; rw [hr]; rfl
        rw [hr] at hfl
        clear hr
        go_wp2_with (first | (go_at_call 23; refine hfl.mono ?_; rintro e w2 ⟨rfl, hd⟩; have hk2 := drewN_keeps hd hbel hown) | (at_builtin; refine wpList_append_own _ rfl _ _ 33 rfl w.heap.size 3 i0 (.int .i64 0) 1 8 Try.underlying33 hi hz0 hz1 hz2 rfl (by decide) _ _ _ rfl (hk2.2.alloc _) ⟨w2.heap.size, 0, none⟩ 1 1 [.int .i64 (k : Nat)] rfl rfl (one_cell_at _) (intCells_one k) (by unfold maxLen; omega) (by omega) (by have := hk2.1.size; simp; omega) ?_; intro v' w1 hown' hgrow _) | go_in)
        go_roundw
        case rel => exact ⟨k + 1, by omega, by go_num, by rw [e.out, List.length_append, intCells, List.map_append]; exact hown', below_append hk2.1 hk2.1.size hk2.2 hgrow⟩
        case measure => simp [intOf]; omega
    · have e : k = c.length := by omega
      subst e
      go_wp2
      go_ret
      exact ⟨_, rfl, hown, hbel⟩
end Go.Proofs.Ytaikeeidjfcijaa
