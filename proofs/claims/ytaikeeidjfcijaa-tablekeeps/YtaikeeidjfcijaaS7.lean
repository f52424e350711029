/- The breaking of patterns: some permutation of the row. -/
import Derived.Test.YtaikeeidjfcijaaS6
namespace Go.Proofs.Ytaikeeidjfcijaa
open Go.RowKit Go.Sort

theorem Now.below {w wr w2 : World} {g n cap : Nat} {d : Array Nat} (h : Now w g n cap d wr) (hb : Go.RowKit.Below w.heap.size wr w2) : Now w g n cap d w2 :=
  ⟨h.row.below hb h.lt, ⟨hb.os.trans h.grown.os, hb.tape.trans h.grown.tape, hb.output.trans h.grown.output, Nat.le_trans h.grown.size hb.size, fun k hk hne => (hb.block k hk).trans (h.grown.block k hk hne)⟩, h.lt⟩

theorem and_lt (y m : Nat) (hy : y < 18446744073709551616) (hm : m < 18446744073709551616) : ∃ o : Nat, o ≤ m ∧ bits .and .u64 (y : Int) (m : Int) = (o : Int) := ⟨y &&& m, Nat.and_le_right, u64_and_nat y m hy hm⟩

theorem rnd_kept {w2 : World} {s y g i p q : Nat} {u v : Value} (h : Rnd w2 s y) (hne : g ≠ s) : Rnd (((w2.drewN q).setCell ⟨g, i, none⟩ u).setCell ⟨g, p, none⟩ v) s y := by
  unfold Rnd
  rw [Go.RowKit.Below.heap_setCell _ _ _ _ (fun e => hne e.symm), Go.RowKit.Below.heap_setCell _ _ _ _ (fun e => hne e.symm)]
  exact h

set_option maxRecDepth 100000 in
set_option maxHeartbeats 8000000 in
theorem break_any (g n cap a b : Nat) (d : Array Nat) (w : World) (hR : Row w g n cap d) (hab : a + 8 ≤ b) (hb : b ≤ n) (hn : n ≤ 4000000) :
    Calls Try.prog 41 #[.slice (some ⟨g, 0, none⟩) n cap, .int .i64 a, .int .i64 b] w fun e w' => e = .returned (.tuple #[]) ∧ ∃ d', PermIn a b d d' ∧ Now w g n cap d' w' := by
  obtain ⟨L, hL⟩ : ∃ L : Nat, Hid (L = b - a) := ⟨_, rfl⟩
  obtain ⟨j, hj⟩ : ∃ j : Nat, Hid (j = a + L / 4 * 2) := ⟨_, rfl⟩
  have eL : (b : Int) - (a : Int) = (L : Int) := by have := hL.out; omega
  have ej : (a : Int) + (L : Int) / 4 * 2 = (j : Int) := by have := hj.out; omega
  have L8 : (8 : Int) ≤ (L : Int) := by have := hL.out; omega
  have Ln : (L : Int) ≤ 4000000 := by have := hL.out; omega
  have j1 : a + 1 ≤ j ∧ j + 1 < b := by have := hL.out; have := hj.out; omega
  have jj : (1 : Int) ≤ (j : Int) ∧ (j : Int) + 1 ≤ 4000000 := by omega
  have hg := hR.lt
  go_enter Try.func41, Try.ntmps41
  go_wp2_with (first | (go_at_call 51; refine (nextPow_any L (by omega) (by omega) _).mono ?_; rintro e w0 ⟨m, rfl, hm1, hm2, hw0⟩))
  obtain ⟨m', hm'⟩ : ∃ m' : Nat, Hid (m' = m - 1) := ⟨_, rfl⟩
  have em : IntKind.u64.wrap ((m : Int) - 1) = (m' : Int) := by
    rw [IntKind.wrap_u64]
    have := hm'.out
    rw [Int.emod_eq_of_lt (by omega) (by omega)]
    omega
  have hN0 := (Now.refl hR).alloc (.cells #[.int .u64 (L : Nat)] 71)
  have hR0 : Hid (Rnd (w.alloc (.cells #[.int .u64 (L : Nat)] 71)) w.heap.size L) := heap_alloc_new w _
  clear hw0
  go_loopw [9] (fun vi wr => ∃ (i : Nat) (dk : Array Nat) (x : Nat), vi = .int .i64 i ∧ j ≤ i + 1 ∧ i ≤ j + 2 ∧ x < 18446744073709551616 ∧ Rnd wr w.heap.size x ∧ Now w g n cap dk wr ∧ Hid (PermIn a b d dk)) (fun vi _ => j + 2 - (intOf vi).toNat)
  case atStart => exact ⟨j - 1, d, L, by congr 1; omega, by omega, by omega, by omega, hR0.out, hN0, permIn_refl _ _ _⟩
  case round =>
    clear hN0 hR0 hR
    obtain ⟨i, dk, x, rfl, hji, hij, hx, hRx, hN, hPm⟩ := hrel
    have HRx : Hid (Rnd wr w.heap.size x) := hRx
    clear hRx
    by_cases hlt : i ≤ j + 1
    · have hlt' : (i : Int) ≤ (j : Int) + 1 := by omega
      go_wp2_with fail
      refine (next_any w.heap.size x w.heap.size wr (Nat.le_refl _) hx HRx.out).mono ?_
      rintro e w2 ⟨y, rfl, hy, hRy, hby⟩
      have hR2 : Hid (Rnd w2 w.heap.size y) := hRy
      have hN2 := hN.below hby
      obtain ⟨o, ho, eo⟩ := and_lt y m' hy (by have := hm'.out; omega)
      have ho2 : o < 2 * L := by have := hm'.out; omega
      clear hRy hby hN HRx hx
      obtain ⟨G, HG⟩ : ∃ G : Nat → Nat, Hid (∀ t, G t = dk[t]!) := ⟨fun t => dk[t]!, fun _ => rfl⟩
      have hcw : ∀ t, t < n → w2.cell? ⟨g, t, none⟩ = some (.int .u64 (G t : Nat)) := fun t ht => by rw [HG.out]; exact hN2.row.cell t ht
      have hfw : ∀ t, t < n → w2.frozen? ⟨g, t, none⟩ = false := fun t _ => hN2.row.free t
      have x0 := hcw i (by omega)
      have f0 := hfw i (by omega)
      have ni : (i : Int) < (n : Int) := by omega
      by_cases hoL : o < L
      · have hoL' : decide ((L : Int) ≤ (o : Int)) = false := decide_eq_false (by omega)
        have hoL2 : (o : Int) < (L : Int) := by omega
        obtain ⟨p, hp⟩ : ∃ p : Nat, Hid (p = a + o) := ⟨_, rfl⟩
        have ep : (a : Int) + (o : Int) = (p : Int) := by have := hp.out; omega
        have hpr : a ≤ p ∧ p < b := by have := hp.out; have := hL.out; omega
        have pn' : (p : Int) < (n : Int) := by omega
        have x1 := hcw p (by omega)
        have f1 := hfw p (by omega)
        have hN3 := (hN2.drewN 1).swap i p
        rw [← HG.out, ← HG.out] at hN3
        have HPm : Hid (PermIn a b d (swp dk i p)) := permIn_trans _ _ _ _ _ hPm.out (swp_permIn dk a b i p (by omega) (by omega) hpr.1 hpr.2 (by rw [hN2.row.size]; exact hb))
        have hRn : Hid (Rnd (((w2.drewN 1).setCell ⟨g, i, none⟩ (.int .u64 (G p : Nat))).setCell ⟨g, p, none⟩ (.int .u64 (G i : Nat))) w.heap.size y) := rnd_kept hR2.out (by omega)
        rcases Nat.lt_trichotomy i p with hip | hip | hip
        · go_wp2_with fail
          go_region
          all_goals go_wp2
          exact ⟨⟨i + 1, swp dk i p, y, by go_num, by omega, by omega, hy, hRn.out, hN3, HPm⟩, by simp [intOf]; omega⟩
        · subst hip
          go_wp2_with fail
          go_region
          all_goals go_wp2
          exact ⟨⟨i + 1, swp dk i i, y, by go_num, by omega, by omega, hy, hRn.out, hN3, HPm⟩, by simp [intOf]; omega⟩
        · go_wp2_with fail
          go_region
          all_goals go_wp2
          exact ⟨⟨i + 1, swp dk i p, y, by go_num, by omega, by omega, hy, hRn.out, hN3, HPm⟩, by simp [intOf]; omega⟩
      · have hoL' : (L : Int) ≤ (o : Int) := by omega
        obtain ⟨p, hp⟩ : ∃ p : Nat, Hid (p = a + (o - L)) := ⟨_, rfl⟩
        have ep : (a : Int) + ((o : Int) - (L : Int)) = (p : Int) := by have := hp.out; omega
        have hpr : a ≤ p ∧ p < b := by have := hp.out; have := hL.out; omega
        have pn' : (p : Int) < (n : Int) := by omega
        have x1 := hcw p (by omega)
        have f1 := hfw p (by omega)
        have hN3 := (hN2.drewN 1).swap i p
        rw [← HG.out, ← HG.out] at hN3
        have HPm : Hid (PermIn a b d (swp dk i p)) := permIn_trans _ _ _ _ _ hPm.out (swp_permIn dk a b i p (by omega) (by omega) hpr.1 hpr.2 (by rw [hN2.row.size]; exact hb))
        have hRn : Hid (Rnd (((w2.drewN 1).setCell ⟨g, i, none⟩ (.int .u64 (G p : Nat))).setCell ⟨g, p, none⟩ (.int .u64 (G i : Nat))) w.heap.size y) := rnd_kept hR2.out (by omega)
        rcases Nat.lt_trichotomy i p with hip | hip | hip
        · go_wp2_with fail
          go_region
          all_goals go_wp2
          exact ⟨⟨i + 1, swp dk i p, y, by go_num, by omega, by omega, hy, hRn.out, hN3, HPm⟩, by simp [intOf]; omega⟩
        · subst hip
          go_wp2_with fail
          go_region
          all_goals go_wp2
          exact ⟨⟨i + 1, swp dk i i, y, by go_num, by omega, by omega, hy, hRn.out, hN3, HPm⟩, by simp [intOf]; omega⟩
        · go_wp2_with fail
          go_region
          all_goals go_wp2
          exact ⟨⟨i + 1, swp dk i p, y, by go_num, by omega, by omega, hy, hRn.out, hN3, HPm⟩, by simp [intOf]; omega⟩
    · have hlt' : decide ((i : Int) ≤ (j : Int) + 1) = false := decide_eq_false (by omega)
      have hge : (j : Int) + 1 < (i : Int) := by omega
      go_wp2
      go_end0
      exact ⟨rfl, dk, hPm.out, hN⟩
end Go.Proofs.Ytaikeeidjfcijaa
