/- The document's own Flows, Index, Down, Up of a list. -/
import Derived.Test.YtaikeeidjfcijaaW9
namespace Go.Proofs.Ytaikeeidjfcijaa
open Go.RowKit Go.Maps

theorem inT_neg {c : List Nat} {i : Int} (h : ¬ 0 ≤ i) : inT c i = false := by unfold inT; rw [decide_eq_false h]; rfl
theorem inT_big {c : List Nat} {i : Int} (h : ¬ i < c.length) : inT c i = false := by unfold inT; rw [decide_eq_false h]; cases decide (0 ≤ i) <;> rfl

set_option maxRecDepth 100000 in
set_option maxHeartbeats 2000000 in
theorem rtflows_any (a : Option Addr) (cap : Nat) (c : List Nat) (w : World) (hC : Cells w a (labCells c)) (hw : ∀ i, c.getD i 0 < 18446744073709551616) (i j : Int) :
    Calls Try.prog 23 #[.slice a c.length cap, .int .i64 i, .int .i64 j] w fun e w' => e = .returned (.bool (tflows c i j)) ∧ ∃ n, w' = w.drewN n := by
  by_cases h1 : 0 ≤ i
  · by_cases h2 : i < c.length
    · by_cases h3 : 0 ≤ j
      · by_cases h4 : j < c.length
        · obtain ⟨k, rfl⟩ := Int.eq_ofNat_of_zero_le h1
          obtain ⟨m, rfl⟩ := Int.eq_ofNat_of_zero_le h3
          obtain ⟨b, off, rfl, hc⟩ := hC (lab_ne c k (by omega))
          have hx : w.cell? ⟨b, off + k, none⟩ = some (.int .u64 (c.getD k 0 : Nat)) := hc k _ (lab_at c k (by omega))
          have hy : w.cell? ⟨b, off + m, none⟩ = some (.int .u64 (c.getD m 0 : Nat)) := hc m _ (lab_at c m (by omega))
          have fl := fun w => rflows_any (c.getD k 0) (c.getD m 0) (hw k) (hw m) w
          rw [show ((k : Nat) : Int) = (k : Nat) from rfl, tflows_yes (c := c) (i := k) (j := m) (by omega) (by omega)]
          clear hc hC hw
          generalize flowsB (c.getD k 0) (c.getD m 0) = r at *
          generalize c.getD k 0 = x at *
          generalize c.getD m 0 = y at *
          go_enter Try.func23, Try.ntmps23
          go_wp2_with fail
          go_quiet (first | (go_at_call 35; with_reducible exact Calls.quiet_of_same (fl _)))
          go_wp2
          go_ret
          exact ⟨rfl, _, rfl⟩
        · rw [tflows_no2 (inT_big h4)]
          have t4 : decide (j < (c.length : Int)) = false := decide_eq_false h4
          have t4' : (c.length : Int) ≤ j := by omega
          clear h4 hC
          go_enter Try.func23, Try.ntmps23
          go_wp2_with fail
          go_quiet (fail)
          go_wp2
          go_ret
          exact ⟨rfl, _, rfl⟩
      · rw [tflows_no2 (inT_neg h3)]
        have t4 : decide (0 ≤ j) = false := decide_eq_false h3
        have t4' : j < 0 := by omega
        clear h3 hC
        go_enter Try.func23, Try.ntmps23
        go_wp2_with fail
        go_quiet (fail)
        go_wp2
        go_ret
        exact ⟨rfl, _, rfl⟩
    · rw [tflows_no1 (inT_big h2)]
      have t4 : decide (i < (c.length : Int)) = false := decide_eq_false h2
      have t4' : (c.length : Int) ≤ i := by omega
      clear h2 hC
      go_enter Try.func23, Try.ntmps23
      go_wp2_with fail
      go_quiet (fail)
      go_wp2
      go_ret
      exact ⟨rfl, _, rfl⟩
  · rw [tflows_no1 (inT_neg h1)]
    have t4 : decide (0 ≤ i) = false := decide_eq_false h1
    have t4' : i < 0 := by omega
    clear h1 hC
    go_enter Try.func23, Try.ntmps23
    go_wp2_with fail
    go_quiet (fail)
    go_wp2
    go_ret
    exact ⟨rfl, _, rfl⟩

/-- The first place, from k on, that has a label. -/
theorem firstIx {c : List Nat} (hp : c.Pairwise (· < ·)) {a k : Nat} (h : c.getD k 0 = a) (hk : k < c.length) : lastIx c a c.length = some k := by
  rw [← h]; exact lastIx_rising hp _ hk (Nat.le_refl _)

set_option maxRecDepth 100000 in
set_option maxHeartbeats 2000000 in
theorem rindex_any (a : Option Addr) (cap : Nat) (c : List Nat) (w : World) (hC : Cells w a (labCells c)) (hp : c.Pairwise (· < ·)) (q : Nat) (hlen : c.length ≤ 1000) :
    Calls Try.prog 25 #[.slice a c.length cap, .int .u64 q] w fun e w' => e = .returned (.tuple #[.int .i64 ((lastIx c q c.length).getD 0 : Nat), .bool (lastIx c q c.length).isSome]) ∧ w' = w := by
  have HP : Hid (c.Pairwise (· < ·)) := hp
  clear hp
  go_enter Try.func25, Try.ntmps25
  go_wp2
  go_loop [6] (fun i => ∃ k : Nat, k ≤ c.length ∧ i = .int .i64 k ∧ Hid (∀ j, j < k → c.getD j 0 ≠ q)) (fun i => c.length - (intOf i).toNat)
  case atStart => exact ⟨0, Nat.zero_le _, rfl, fun j hj => absurd hj (Nat.not_lt_zero j)⟩
  case round =>
    obtain ⟨k, hk, rfl, hno⟩ := hrel
    by_cases hlt : k < c.length
    · obtain ⟨b, off, rfl, hc⟩ := hC (lab_ne c k hlt)
      have hx : w.cell? ⟨b, off + k, none⟩ = some (.int .u64 (c.getD k 0 : Nat)) := hc k _ (lab_at c k hlt)
      have hlt' : (k : Int) < (c.length : Int) := by omega
      clear hc hC
      by_cases he : c.getD k 0 = q
      · have E : Hid (lastIx c q c.length = some k) := firstIx HP.out he hlt
        generalize c.getD k 0 = x at *
        have t1 : ((x : Int) == (q : Int)) = true := by rw [beq_iff_eq]; omega
        clear he
        go_wp2
        go_ret2
        exact ⟨by rw [E.out]; rfl, rfl⟩
      · have E : Hid (∀ j, j < k + 1 → c.getD j 0 ≠ q) := fun j hj => by
          by_cases e : j = k
          · subst e; exact he
          · exact hno.out j (by omega)
        generalize c.getD k 0 = x at *
        have t1 : ((x : Int) == (q : Int)) = false := by rw [beq_eq_false_iff_ne]; omega
        clear he
        go_wp2
        go_round
        case rel => exact ⟨k + 1, by omega, by go_num, E⟩
        case measure => simp [intOf]; omega
    · have ek : k = c.length := by omega
      subst ek
      have E : Hid (lastIx c q c.length = none) := lastIx_none _ (Nat.le_refl _) (fun hm => by
        obtain ⟨j, hj, e⟩ := mem_getD hm
        exact hno.out j hj e)
      go_wp2
      go_ret2
      exact ⟨by rw [E.out]; rfl, rfl⟩
end Go.Proofs.Ytaikeeidjfcijaa
