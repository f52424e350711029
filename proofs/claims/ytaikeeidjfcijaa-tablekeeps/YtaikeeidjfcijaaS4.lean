/- The choice of a pivot: some place of the row, some hint; nothing is written but a counter of its own. -/
import Derived.Test.YtaikeeidjfcijaaS3
namespace Go.Proofs.Ytaikeeidjfcijaa
open Go.RowKit Go.Sort

theorem Row.below {w w' : World} {g n cap B : Nat} {d : Array Nat} (h : Row w g n cap d) (hb : Go.RowKit.Below B w w') (hg : g < B) : Row w' g n cap d := by
  refine ⟨h.size, h.own.1, ?_⟩
  rcases h.own.2 with h' | ⟨g', cap', cur, hv, hb', hh, r⟩
  · exact .inl h'
  · refine .inr ⟨g', cap', cur, hv, hb', ?_, r⟩
    cases hv
    rw [hb.block g hg]
    exact hh

theorem Now.of_below {w w' : World} {g n cap : Nat} {d : Array Nat} (h : Row w g n cap d) (hb : Go.RowKit.Below w.heap.size w w') : Now w g n cap d w' :=
  ⟨h.below hb h.lt, ⟨hb.os, hb.tape, hb.output, hb.size, fun k hk _ => hb.block k hk⟩, h.lt⟩

/-- The counter in the block s. -/
def Cnt (w : World) (s c : Nat) : Prop := w.heap[s]? = some (.cells #[.int .i64 (c : Nat)] 3 (0, 0))

set_option maxRecDepth 100000 in
set_option maxHeartbeats 2000000 in
theorem order2_any (g n cap a b lo hi s c B : Nat) (d : Array Nat) (w : World) (hR : Row w g n cap d) (_hg : g < B) (hs : B ≤ s) (hc : Cnt w s c) (hcl : c ≤ 1000) (ha : lo ≤ a ∧ a < hi) (hb : lo ≤ b ∧ b < hi) (hhi : hi ≤ n) (_hn : n ≤ 4000000) :
    Calls Try.prog 56 #[.slice (some ⟨g, 0, none⟩) n cap, .int .i64 a, .int .i64 b, .pointer (some ⟨s, 0, none⟩)] w fun e w' => ∃ x y c' : Nat, e = .returned (.tuple #[.int .i64 x, .int .i64 y]) ∧ (lo ≤ x ∧ x < hi) ∧ (lo ≤ y ∧ y < hi) ∧ Cnt w' s c' ∧ c' ≤ c + 1 ∧ Go.RowKit.Below B w w' := by
  obtain ⟨G, HG⟩ : ∃ G : Nat → Nat, Hid (∀ t, G t = d[t]!) := ⟨fun t => d[t]!, fun _ => rfl⟩
  have hcw : ∀ t, t < n → w.cell? ⟨g, t, none⟩ = some (.int .u64 (G t : Nat)) := fun t ht => by rw [HG.out]; exact hR.cell t ht
  have x0 := hcw a (by omega)
  have x1 := hcw b (by omega)
  have na : (a : Int) < (n : Int) := by omega
  have nb : (b : Int) < (n : Int) := by omega
  have cs : w.cell? ⟨s, 0, none⟩ = some (.int .i64 (c : Nat)) := cell_of_one hc
  have fs : w.frozen? ⟨s, 0, none⟩ = false := free_of_one hc
  have HC : Hid (Cnt w s c) := hc
  clear hc hcw
  go_enter Try.func56, Try.ntmps56
  go_wp2_with fail
  go_quiet (first | (go_at_call 45; refine Calls.quiet_of_same (less_any _ _ _)))
  cases hl : ltN (G b) (G a)
  · go_wp2
    go_ret2
    exact ⟨a, b, c, rfl, ha, hb, HC.out, by omega, below_drewN (Go.RowKit.Below.refl _ _) _⟩
  · go_wp2
    go_ret2
    refine ⟨b, a, c + 1, rfl, hb, ha, ?_, by omega, ?_⟩
    · exact one_setCell (w := w.drewN nq) HC.out
    · exact (below_drewN (Go.RowKit.Below.refl _ _) _).setCell hs _

set_option maxRecDepth 100000 in
set_option maxHeartbeats 2000000 in
theorem median_any (g n cap a b c0 lo hi s c B : Nat) (d : Array Nat) (w : World) (hR : Row w g n cap d) (hg : g < B) (hs : B ≤ s) (hc : Cnt w s c) (hcl : c ≤ 900) (ha : lo ≤ a ∧ a < hi) (hb : lo ≤ b ∧ b < hi) (h0 : lo ≤ c0 ∧ c0 < hi) (hhi : hi ≤ n) (hn : n ≤ 4000000) :
    Calls Try.prog 54 #[.slice (some ⟨g, 0, none⟩) n cap, .int .i64 a, .int .i64 b, .int .i64 c0, .pointer (some ⟨s, 0, none⟩)] w fun e w' => ∃ x c' : Nat, e = .returned (.int .i64 x) ∧ (lo ≤ x ∧ x < hi) ∧ Cnt w' s c' ∧ c' ≤ c + 3 ∧ Go.RowKit.Below B w w' := by
  have HC : Hid (Cnt w s c) := hc
  clear hc
  go_enter Try.func54, Try.ntmps54
  go_wp2_with fail
  refine (order2_any g n cap a b lo hi s c B d w hR hg hs HC.out (by omega) ha hb hhi hn).mono ?_
  rintro e w1 ⟨x1, y1, c1, rfl, hx1, hy1, hc1, hl1, hb1⟩
  have HC1 : Hid (Cnt w1 s c1) := hc1
  clear hc1
  go_wp2_with fail
  refine (order2_any g n cap y1 c0 lo hi s c1 B d w1 (hR.below hb1 hg) hg hs HC1.out (by omega) hy1 h0 hhi hn).mono ?_
  rintro e w2 ⟨x2, y2, c2, rfl, hx2, hy2, hc2, hl2, hb2⟩
  have HC2 : Hid (Cnt w2 s c2) := hc2
  clear hc2
  go_wp2_with fail
  refine (order2_any g n cap x1 x2 lo hi s c2 B d w2 ((hR.below hb1 hg).below hb2 hg) hg hs HC2.out (by omega) hx1 hx2 hhi hn).mono ?_
  rintro e w3 ⟨x3, y3, c3, rfl, hx3, hy3, hc3, hl3, hb3⟩
  have HC3 : Hid (Cnt w3 s c3) := hc3
  clear hc3
  go_wp2
  go_ret
  exact ⟨y3, c3, rfl, hy3, HC3.out, by omega, (hb1.trans hb2).trans hb3⟩

set_option maxRecDepth 100000 in
set_option maxHeartbeats 2000000 in
theorem adjacent_any (g n cap a lo hi s c B : Nat) (d : Array Nat) (w : World) (hR : Row w g n cap d) (hg : g < B) (hs : B ≤ s) (hc : Cnt w s c) (hcl : c ≤ 900) (ha : lo + 1 ≤ a ∧ a + 1 < hi) (hhi : hi ≤ n) (hn : n ≤ 4000000) :
    Calls Try.prog 53 #[.slice (some ⟨g, 0, none⟩) n cap, .int .i64 a, .pointer (some ⟨s, 0, none⟩)] w fun e w' => ∃ x c' : Nat, e = .returned (.int .i64 x) ∧ (lo ≤ x ∧ x < hi) ∧ Cnt w' s c' ∧ c' ≤ c + 3 ∧ Go.RowKit.Below B w w' := by
  have HM := median_any g n cap (a - 1) a (a + 1) lo hi s c B d w hR hg hs hc hcl (by omega) (by omega) (by omega) hhi hn
  rw [show ((a - 1 : Nat) : Int) = (a : Int) - 1 by omega, show ((a + 1 : Nat) : Int) = (a : Int) + 1 by omega] at HM
  clear hc
  go_enter Try.func53, Try.ntmps53
  go_wp2_with fail
  refine HM.mono ?_
  rintro e w1 ⟨x, c', rfl, hx, hc', hl, hb⟩
  have HC : Hid (Cnt w1 s c') := hc'
  clear hc'
  go_wp2
  go_ret
  exact ⟨x, c', rfl, hx, HC.out, hl, hb⟩

set_option maxRecDepth 100000 in
set_option maxHeartbeats 8000000 in
theorem pivot_any (g n cap a b : Nat) (d : Array Nat) (w : World) (hR : Row w g n cap d) (hab : a + 8 ≤ b) (hb : b ≤ n) (hn : n ≤ 4000000) :
    Calls Try.prog 42 #[.slice (some ⟨g, 0, none⟩) n cap, .int .i64 a, .int .i64 b] w fun e w' => ∃ p h : Nat, e = .returned (.tuple #[.int .i64 p, .int .i64 h]) ∧ (a ≤ p ∧ p < b) ∧ h ≤ 2 ∧ Now w g n cap d w' := by
  obtain ⟨L, hL⟩ : ∃ L : Nat, Hid (L = b - a) := ⟨_, rfl⟩
  obtain ⟨i, hi⟩ : ∃ i : Nat, Hid (i = a + L / 4) := ⟨_, rfl⟩
  obtain ⟨j, hj⟩ : ∃ j : Nat, Hid (j = a + L / 4 * 2) := ⟨_, rfl⟩
  obtain ⟨k, hk⟩ : ∃ k : Nat, Hid (k = a + L / 4 * 3) := ⟨_, rfl⟩
  have eL : (b : Int) - (a : Int) = (L : Int) := by have := hL.out; omega
  have ei : (a : Int) + (L : Int) / 4 = (i : Int) := by have := hi.out; omega
  have ej : (a : Int) + (L : Int) / 4 * 2 = (j : Int) := by have := hj.out; omega
  have ek : (a : Int) + (L : Int) / 4 * 3 = (k : Int) := by have := hk.out; omega
  have L8 : (8 : Int) ≤ (L : Int) := by have := hL.out; omega
  have Ln : (L : Int) ≤ 4000000 := by have := hL.out; omega
  have hall : (a ≤ i ∧ i < b) ∧ (a ≤ j ∧ j < b) ∧ (a ≤ k ∧ k < b) := by have := hL.out; have := hi.out; have := hj.out; have := hk.out; omega
  have hg := hR.lt
  have cnt0 : Cnt (w.alloc (.cells #[.int .i64 0] 3)) w.heap.size 0 := heap_alloc_new w _
  have B0 : Go.RowKit.Below w.heap.size w (w.alloc (.cells #[.int .i64 0] 3)) := (Go.RowKit.Below.refl _ _).alloc (Nat.le_refl _) _
  have HC0 : Hid (Cnt (w.alloc (.cells #[.int .i64 0] 3)) w.heap.size 0) := cnt0
  clear cnt0
  by_cases h50 : 50 ≤ L
  · have L50 : (50 : Int) ≤ (L : Int) := by omega
    have h3 : (a + 1 ≤ i ∧ i + 1 < b) ∧ (a + 1 ≤ j ∧ j + 1 < b) ∧ (a + 1 ≤ k ∧ k + 1 < b) := by have := hL.out; have := hi.out; have := hj.out; have := hk.out; omega
    go_enter Try.func42, Try.ntmps42
    go_wp2_with fail
    refine (adjacent_any g n cap i a b w.heap.size 0 w.heap.size d _ (hR.below B0 hg) hg (Nat.le_refl _) HC0.out (by omega) h3.1 hb hn).mono ?_
    rintro e w1 ⟨i1, c1, rfl, hi1, hc1, hl1, hb1⟩
    have HC1 : Hid (Cnt w1 w.heap.size c1) := hc1
    have B1 := B0.trans hb1
    clear hc1 hb1 HC0 B0
    go_wp2_with fail
    refine (adjacent_any g n cap j a b w.heap.size c1 w.heap.size d w1 (hR.below B1 hg) hg (Nat.le_refl _) HC1.out (by omega) h3.2.1 hb hn).mono ?_
    rintro e w2 ⟨j1, c2, rfl, hj1, hc2, hl2, hb2⟩
    have HC2 : Hid (Cnt w2 w.heap.size c2) := hc2
    have B2 := B1.trans hb2
    clear hc2 hb2 HC1 B1
    go_wp2_with fail
    refine (adjacent_any g n cap k a b w.heap.size c2 w.heap.size d w2 (hR.below B2 hg) hg (Nat.le_refl _) HC2.out (by omega) h3.2.2 hb hn).mono ?_
    rintro e w3 ⟨k1, c3, rfl, hk1, hc3, hl3, hb3⟩
    have HC3 : Hid (Cnt w3 w.heap.size c3) := hc3
    have B3 := B2.trans hb3
    clear hc3 hb3 HC2 B2
    go_wp2_with fail
    refine (median_any g n cap i1 j1 k1 a b w.heap.size c3 w.heap.size d w3 (hR.below B3 hg) hg (Nat.le_refl _) HC3.out (by omega) hi1 hj1 hk1 hb hn).mono ?_
    rintro e w4 ⟨p, c4, rfl, hp, hc4, hl4, hb4⟩
    have cs : w4.cell? ⟨w.heap.size, 0, none⟩ = some (.int .i64 (c4 : Nat)) := cell_of_one hc4
    have B4 := B3.trans hb4
    clear hc4 hb4 HC3 B3
    by_cases z0 : c4 = 0
    · have t0 : ((c4 : Int) == 0) = true := by rw [beq_iff_eq]; omega
      go_wp2
      go_ret2
      exact ⟨p, 1, rfl, hp, by omega, Now.of_below hR B4⟩
    · have t0 : ((c4 : Int) == 0) = false := by rw [beq_eq_false_iff_ne]; omega
      by_cases z12 : c4 = 12
      · have t12 : ((c4 : Int) == 12) = true := by rw [beq_iff_eq]; omega
        go_wp2
        go_ret2
        exact ⟨p, 2, rfl, hp, by omega, Now.of_below hR B4⟩
      · have t12 : ((c4 : Int) == 12) = false := by rw [beq_eq_false_iff_ne]; omega
        go_wp2
        go_ret2
        exact ⟨p, 0, rfl, hp, by omega, Now.of_below hR B4⟩
  · have L50 : decide ((50 : Int) ≤ (L : Int)) = false := decide_eq_false (by omega)
    have L50' : (L : Int) < 50 := by omega
    go_enter Try.func42, Try.ntmps42
    go_wp2_with fail
    refine (median_any g n cap i j k a b w.heap.size 0 w.heap.size d _ (hR.below B0 hg) hg (Nat.le_refl _) HC0.out (by omega) hall.1 hall.2.1 hall.2.2 hb hn).mono ?_
    rintro e w4 ⟨p, c4, rfl, hp, hc4, hl4, hb4⟩
    have cs : w4.cell? ⟨w.heap.size, 0, none⟩ = some (.int .i64 (c4 : Nat)) := cell_of_one hc4
    have B4 := B0.trans hb4
    clear hc4 hb4 HC0 B0
    by_cases z0 : c4 = 0
    · have t0 : ((c4 : Int) == 0) = true := by rw [beq_iff_eq]; omega
      go_wp2
      go_ret2
      exact ⟨p, 1, rfl, hp, by omega, Now.of_below hR B4⟩
    · have t0 : ((c4 : Int) == 0) = false := by rw [beq_eq_false_iff_ne]; omega
      by_cases z12 : c4 = 12
      · have t12 : ((c4 : Int) == 12) = true := by rw [beq_iff_eq]; omega
        go_wp2
        go_ret2
        exact ⟨p, 2, rfl, hp, by omega, Now.of_below hR B4⟩
      · have t12 : ((c4 : Int) == 12) = false := by rw [beq_eq_false_iff_ne]; omega
        go_wp2
        go_ret2
        exact ⟨p, 0, rfl, hp, by omega, Now.of_below hR B4⟩
end Go.Proofs.Ytaikeeidjfcijaa
