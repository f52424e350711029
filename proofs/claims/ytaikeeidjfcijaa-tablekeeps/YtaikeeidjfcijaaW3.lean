/- Down and Up of a table. -/
import Derived.Test.YtaikeeidjfcijaaW2
import Derived.OwnWalk
namespace Go.Proofs.Ytaikeeidjfcijaa
open Go.RowKit Go.Maps

theorem info3 : (Try.prog.info? 3).map (fun i => (i.zero, i.size, i.bytes)) = some (some (.int .i64 0), 1, 8) := by kernel_rfl
theorem info35 : (Try.prog.info? 35).map (fun i => (i.zero, i.size, i.bytes)) = some (some (.int .u64 0), 1, 8) := by kernel_rfl

/-- Numbers as the cells of a list of ints. -/
def intCells (l : List Nat) : List Value := l.map (fun n => .int .i64 (n : Nat))
/-- Labels as the cells of a list of labels. -/
def labCells (l : List Nat) : List Value := l.map (fun n => .int .u64 (n : Nat))
theorem intCells_len (l : List Nat) : (intCells l).length = l.length := by simp [intCells]
theorem labCells_len (l : List Nat) : (labCells l).length = l.length := by simp [labCells]

theorem one_cell_at {w : World} {t : TypeId} (v : Value) : ∀ j u, [v][j]? = some u → (w.alloc (.cells #[v] t)).cell? ((⟨w.heap.size, 0, none⟩ : Addr).add j) = some u := by
  intro j u hj
  match j, hj with
  | 0, hj => simp at hj; subst hj; simp [Addr.add]

theorem intCells_one (x : Nat) : ∀ u ∈ [Value.int .i64 (x : Int)], u.oneCell' = true := by
  intro u hu; simp at hu; subst hu; rfl

theorem below_append {B : Nat} {w wr w1 : World} {v : Value} {n : Nat} {e : TypeId} {xs : List Value} {o : Obj} (hbel : Below B w wr) (hB : B ≤ wr.heap.size) (hown : wr.ownsRow B e 1 v n xs) (hg : (wr.alloc o).grownBy w1 v.ownBlock) : Below B w w1 :=
  (hbel.alloc hB o).grown hg (by simp; omega) (fun k hk => (hown.lt k hk).1)

set_option maxRecDepth 100000 in
set_option maxHeartbeats 1000000 in
theorem down_any {w : World} {tb lb cap mb : Nat} {c : List Nat} (h : Tab w tb lb cap mb c) (a : Nat) (ha : a < 18446744073709551616) :
    Calls Try.prog 26 #[.pointer (some ⟨tb, 0, none⟩), .int .u64 a] w fun e w' => ∃ v, e = .returned v ∧ w'.ownsRow w.heap.size 3 1 v (downTo c a c.length).length (intCells (downTo c a c.length)) ∧ Below w.heap.size w w' := by
  obtain ⟨i0, hi, hz0, hz1, hz2⟩ := info_parts info3
  have c0 := h.c0
  have hn := h.len
  go_enter Try.func26, Try.ntmps26
  go_wp2
  go_loopw [5, 13] (fun v i wr => ∃ k : Nat, k ≤ c.length ∧ i = .int .i64 k ∧ wr.ownsRow w.heap.size 3 1 v (downTo c a k).length (intCells (downTo c a k)) ∧ Below w.heap.size w wr) (fun _ i _ => c.length - (intOf i).toNat)
  case atStart => exact ⟨0, Nat.zero_le _, rfl, World.ownsRow_nil _ _ _ _, Below.refl _ _⟩
  case round =>
    obtain ⟨k, hk, rfl, hown, hbel⟩ := hrel
    have hdl := downTo_len c a k
    by_cases hlt : k < c.length
    · have lk := (h.kept hbel).lab k hlt
      have hfl := fun w => flows_any (c.getD k 0) a (h.wf k) ha w
      cases hr : flowsB (c.getD k 0) a
      · have e : Hid (downTo c a (k + 1) = downTo c a k) := by show _ = _; simp only [downTo]; rw [hr]; rfl
        rw [hr] at hfl
        generalize c.getD k 0 = x at *
        go_wp2_with (first | (go_at_call 34; refine (hfl _).mono ?_; rintro e w' ⟨rfl, rfl⟩))
        go_roundw
        case rel => exact ⟨k + 1, by omega, by go_num, by rw [e.out]; exact hown, hbel⟩
        case measure => simp [intOf]; omega
      · have e : Hid (downTo c a (k + 1) = downTo c a k ++ [k]) := by show _ = _; simp only [downTo]; rw [hr]; rfl
        rw [hr] at hfl
        generalize c.getD k 0 = x at *
        go_wp2_with (first | (go_at_call 34; refine (hfl _).mono ?_; rintro e wr ⟨rfl, rfl⟩) | (at_builtin; refine wpList_append_own _ rfl _ _ 33 rfl w.heap.size 3 i0 (.int .i64 0) 1 8 Try.underlying33 hi hz0 hz1 hz2 rfl (by decide) _ _ _ rfl (hown.alloc _) ⟨wr.heap.size, 0, none⟩ 1 1 [.int .i64 (k : Nat)] rfl rfl (one_cell_at _) (intCells_one k) (by unfold maxLen; omega) (by omega) (by have := hbel.size; simp; omega) ?_; intro v' w1 hown' hgrow _) | go_in)
        go_roundw
        case rel => exact ⟨k + 1, by omega, by go_num, by rw [e.out, List.length_append, intCells, List.map_append]; exact hown', below_append hbel hbel.size hown hgrow⟩
        case measure => simp [intOf]; omega
    · have e : k = c.length := by omega
      subst e
      go_wp2
      go_ret
      exact ⟨_, rfl, hown, hbel⟩

theorem drewN_keeps {w wr w2 : World} {B : Nat} {e : TypeId} {v : Value} {n : Nat} {xs : List Value} (hd : ∃ n, w2 = wr.drewN n) (hbel : Below B w wr) (hown : wr.ownsRow B e 1 v n xs) : Below B w w2 ∧ w2.ownsRow B e 1 v n xs := by
  obtain ⟨m, rfl⟩ := hd
  exact ⟨below_drewN hbel m, hown⟩

set_option maxRecDepth 100000 in
set_option maxHeartbeats 1000000 in
theorem up_any {w : World} {tb lb cap mb : Nat} {c : List Nat} (h : Tab w tb lb cap mb c) (a : Int) :
    Calls Try.prog 20 #[.pointer (some ⟨tb, 0, none⟩), .int .i64 a] w fun e w' => ∃ v, e = .returned v ∧ w'.ownsRow w.heap.size 3 1 v (upTo c a c.length).length (intCells (upTo c a c.length)) ∧ Below w.heap.size w w' := by
  obtain ⟨i0, hi, hz0, hz1, hz2⟩ := info_parts info3
  have c0 := h.c0
  have hn := h.len
  go_enter Try.func20, Try.ntmps20
  go_wp2
  go_loopw [5, 12] (fun v i wr => ∃ k : Nat, k ≤ c.length ∧ i = .int .i64 k ∧ wr.ownsRow w.heap.size 3 1 v (upTo c a k).length (intCells (upTo c a k)) ∧ Below w.heap.size w wr) (fun _ i _ => c.length - (intOf i).toNat)
  case atStart => exact ⟨0, Nat.zero_le _, rfl, World.ownsRow_nil _ _ _ _, Below.refl _ _⟩
  case round =>
    obtain ⟨k, hk, rfl, hown, hbel⟩ := hrel
    have hdl := upTo_len c a k
    by_cases hlt : k < c.length
    · have hfl := tflows_any (h.kept hbel) a (k : Nat)
      cases hr : tflows c a (k : Nat)
      · have e : Hid (upTo c a (k + 1) = upTo c a k) := by show _ = _; simp only [upTo]; rw [hr]; rfl
        rw [hr] at hfl
        clear hr
        go_wp2_with (first | (go_at_call 22; refine hfl.mono ?_; rintro e w2 ⟨rfl, hd⟩))
        have hk2 := drewN_keeps hd hbel hown
        go_roundw
        case rel => exact ⟨k + 1, by omega, by go_num, by rw [e.out]; exact hk2.2, hk2.1⟩
        case measure => simp [intOf]; omega
      · have e : Hid (upTo c a (k + 1) = upTo c a k ++ [k]) := by show _ = _; simp only [upTo]; rw [hr]; rfl
        rw [hr] at hfl
        clear hr
        go_wp2_with (first | (go_at_call 22; refine hfl.mono ?_; rintro e w2 ⟨rfl, hd⟩; have hk2 := drewN_keeps hd hbel hown) | (at_builtin; refine wpList_append_own _ rfl _ _ 33 rfl w.heap.size 3 i0 (.int .i64 0) 1 8 Try.underlying33 hi hz0 hz1 hz2 rfl (by decide) _ _ _ rfl (hk2.2.alloc _) ⟨w2.heap.size, 0, none⟩ 1 1 [.int .i64 (k : Nat)] rfl rfl (one_cell_at _) (intCells_one k) (by unfold maxLen; omega) (by omega) (by have := hk2.1.size; simp; omega) ?_; intro v' w1 hown' hgrow _) | go_in)
        go_roundw
        case rel => exact ⟨k + 1, by omega, by go_num, by rw [e.out, List.length_append, intCells, List.map_append]; exact hown', below_append hk2.1 hk2.1.size hk2.2 hgrow⟩
        case measure => simp [intOf]; omega
    · have e : k = c.length := by omega
      subst e
      go_wp2
      go_ret
      exact ⟨_, rfl, hown, hbel⟩
end Go.Proofs.Ytaikeeidjfcijaa
