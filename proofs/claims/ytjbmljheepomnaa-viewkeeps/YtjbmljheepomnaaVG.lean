/- Who is seen: partitions and processes, by the program and by the document. -/
import Derived.Test.YtjbmljheepomnaaVF
namespace Go.Proofs.Ytjbmljheepomnaa
open Go.RowKit

def uE (_ : World) (cs : List Value) (x : Nat) : Prop := cs = [.int .u64 (x : Int)] ∧ x < 18446744073709551616
def cE (_ : World) (cs : List Value) (x : Int) : Prop := ∃ u, cs = [.int .i64 x, u]
/-- A config. -/
def fE (w : World) (cs : List Value) (c : CfX) : Prop := ∃ v0 v1 v2 v3 v4 v5 v6, cs = [v0, v1, v2, v3, v4, v5, v6] ∧ DeR 1 uE w v0 c.lb ∧ DeR 2 cE w v6 c.pp
theorem fE.below {w w' : World} {cs : List Value} {c : CfX} (hb : Below w.heap.size w w') (h : fE w cs c) : fE w' cs c := by
  obtain ⟨v0, v1, v2, v3, v4, v5, v6, e, h1, h2⟩ := h
  exact ⟨v0, v1, v2, v3, v4, v5, v6, e, h1.below hb fun _ _ h => h, h2.below hb fun _ _ h => h⟩
theorem one_box {w : World} (x : Array Value) (T : TypeId) : (∀ V, Below (w.alloc (.cells x T)).heap.size (w.alloc (.cells x T)) V → V.heap[w.heap.size]? = some (.cells x T (0, 0))) ∧ Below w.heap.size w (w.alloc (.cells x T)) := by
  have h1 := heap_alloc_new w (.cells x T)
  exact ⟨fun V hb => (hb.block _ (Array.getElem?_eq_some_iff.1 h1).1).trans h1, below_al w _⟩
theorem box_at1 {V : World} {B : Nat} {x : Array Value} {T : TypeId} (h : V.heap[B]? = some (.cells x T (0, 0))) {j : Nat} {u : Value} (hj : x[j]? = some u) : V.cell? ⟨B, j, none⟩ = some u := by rw [cell_of_row _ _ _ _ _ _ h]; exact hj
set_option maxRecDepth 100000 in
set_option maxHeartbeats 2000000 in
theorem seesPart_any {w : World} {cs : List Value} {c : CfX} (hc : fE w cs c) (i : Int) (a : Nat) (ha : a < 18446744073709551616) : Calls Try.prog 17 #[.agg cs.toArray, .int .i64 i, .int .u64 (a : Int)] w fun e w' => e = .returned (.bool (seesP c a i)) ∧ Below w.heap.size w w' := by
  obtain ⟨v0, v1, v2, v3, v4, v5, v6, rfl, h1, -⟩ := hc
  obtain ⟨la, lc, rfl, hl, hh⟩ := h1.at' (by decide)
  unfold BIG at hl
  have HB : Hid (∀ o, Below w.heap.size w (w.alloc o)) := hd (below_al w)
  by_cases h0 : 0 ≤ i
  case neg =>
    have e1 : seesP c a i = false := by unfold seesP; rw [decide_eq_false h0]; rfl
    have d1 : decide (0 ≤ i) = false := decide_eq_false h0
    rw [e1]
    clear e1 hh h1 h0 hl
    generalize c.lb.length = n at *
    go_enter Try.func17, Try.ntmps17
    go_wp2_with fail
    go_ret
    exact ⟨rfl, HB.out _⟩
  by_cases h2 : i < (c.lb.length : Int)
  case neg =>
    have e1 : seesP c a i = false := by unfold seesP; rw [decide_eq_false h2]; simp
    have d1 : decide (i < (c.lb.length : Int)) = false := decide_eq_false h2
    rw [e1]
    clear e1 hh h1 h2
    generalize c.lb.length = n at *
    go_enter Try.func17, Try.ntmps17
    go_wp2_with fail
    go_ret
    exact ⟨rfl, HB.out _⟩
  obtain ⟨m, rfl⟩ := Int.eq_ofNat_of_zero_le h0
  have hm : m < c.lb.length := by omega
  obtain ⟨g, o, csx, e2, -, ⟨e3, e4⟩, hx⟩ := hh m hm
  subst e2 e3
  have e1 : seesP c a (m : Int) = flowsN (c.lb.getD m default) a := by
    unfold seesP
    rw [decide_eq_true h0, decide_eq_true h2, Int.toNat_natCast]
    rfl
  rw [e1]
  have HX : Hid (∀ W, Below w.heap.size w W → W.cell? ⟨g, o + m, none⟩ = some (.int .u64 ((c.lb.getD m default : Nat) : Int))) := hd fun W hb => by
    have := hx W hb 0 _ rfl
    simpa using this
  clear e1 hh h1 hx hm
  generalize c.lb.getD m default = l at *
  generalize c.lb.length = n at *
  go_enter Try.func17, Try.ntmps17
  go_upto_region 1 with fail
  have x0 := HX.out _ (HB.out (.cells #[.slice (some ⟨g, o, none⟩) n lc, v1, v2, v3, v4, v5, v6] 26))
  go_wp2_with (go_at_call 27; refine (lflows_any l a e4 ha _).mono ?_; rintro e w1 ⟨rfl, rfl⟩)
  go_ret
  exact ⟨rfl, HB.out _⟩
set_option maxRecDepth 100000 in
set_option maxHeartbeats 2000000 in
theorem rpart_any {w : World} {cs : List Value} {c : CfX} (hc : fE w cs c) (i : Int) (a : Nat) (ha : a < 18446744073709551616) : Calls Try.prog 20 #[.agg cs.toArray, .int .i64 i, .int .u64 (a : Int)] w fun e w' => e = .returned (.bool (seesP c a i)) ∧ Below w.heap.size w w' := by
  obtain ⟨v0, v1, v2, v3, v4, v5, v6, rfl, h1, -⟩ := hc
  obtain ⟨la, lc, rfl, hl, hh⟩ := h1.at' (by decide)
  unfold BIG at hl
  have HB : Hid (∀ o, Below w.heap.size w (w.alloc o)) := hd (below_al w)
  by_cases h0 : 0 ≤ i
  case neg =>
    have e1 : seesP c a i = false := by unfold seesP; rw [decide_eq_false h0]; rfl
    have d1 : decide (0 ≤ i) = false := decide_eq_false h0
    rw [e1]
    clear e1 hh h1 h0 hl
    generalize c.lb.length = n at *
    go_enter Try.func20, Try.ntmps20
    go_wp2_with fail
    go_ret
    exact ⟨rfl, HB.out _⟩
  by_cases h2 : i < (c.lb.length : Int)
  case neg =>
    have e1 : seesP c a i = false := by unfold seesP; rw [decide_eq_false h2]; simp
    have d1 : decide (i < (c.lb.length : Int)) = false := decide_eq_false h2
    rw [e1]
    clear e1 hh h1 h2
    generalize c.lb.length = n at *
    go_enter Try.func20, Try.ntmps20
    go_wp2_with fail
    go_ret
    exact ⟨rfl, HB.out _⟩
  obtain ⟨m, rfl⟩ := Int.eq_ofNat_of_zero_le h0
  have hm : m < c.lb.length := by omega
  obtain ⟨g, o, csx, e2, -, ⟨e3, e4⟩, hx⟩ := hh m hm
  subst e2 e3
  have e1 : seesP c a (m : Int) = flowsN (c.lb.getD m default) a := by
    unfold seesP
    rw [decide_eq_true h0, decide_eq_true h2, Int.toNat_natCast]
    rfl
  rw [e1]
  have HX : Hid (∀ W, Below w.heap.size w W → W.cell? ⟨g, o + m, none⟩ = some (.int .u64 ((c.lb.getD m default : Nat) : Int))) := hd fun W hb => by
    have := hx W hb 0 _ rfl
    simpa using this
  clear e1 hh h1 hx hm
  generalize c.lb.getD m default = l at *
  generalize c.lb.length = n at *
  go_enter Try.func20, Try.ntmps20
  go_upto_region 1 with fail
  have x0 := HX.out _ (HB.out (.cells #[.slice (some ⟨g, o, none⟩) n lc, v1, v2, v3, v4, v5, v6] 26))
  go_wp2_with (go_at_call 34; refine (rflows_any l a e4 ha _).mono ?_; rintro e w1 ⟨rfl, rfl⟩)
  go_ret
  exact ⟨rfl, HB.out _⟩
set_option maxRecDepth 100000 in
set_option maxHeartbeats 2000000 in
theorem sees_any {w : World} {cs : List Value} {c : CfX} (hc : fE w cs c) (i : Int) (a : Nat) (ha : a < 18446744073709551616) : Calls Try.prog 11 #[.agg cs.toArray, .int .i64 i, .int .u64 (a : Int)] w fun e w' => e = .returned (.bool (seesQ c a i)) ∧ Below w.heap.size w w' := by
  have HC := hd hc
  obtain ⟨v0, v1, v2, v3, v4, v5, v6, rfl, -, h1⟩ := hc
  obtain ⟨la, lc, rfl, hl, hh⟩ := h1.at' (by decide)
  unfold BIG at hl
  have HB : Hid (∀ o, Below w.heap.size w (w.alloc o)) := hd (below_al w)
  by_cases h0 : 0 ≤ i
  case neg =>
    have e1 : seesQ c a i = false := by unfold seesQ; rw [decide_eq_false h0]; rfl
    have d1 : decide (0 ≤ i) = false := decide_eq_false h0
    rw [e1]
    clear e1 hh h1 h0 hl HC
    generalize c.pp.length = n at *
    go_enter Try.func11, Try.ntmps11
    go_upto_region 1 with fail
    go_quiet (fail)
    go_wp2_with fail
    go_ret
    exact ⟨rfl, (HB.out _).trans ((below_draw _ _).mono (HB.out _).size)⟩
  by_cases h2 : i < (c.pp.length : Int)
  case neg =>
    have e1 : seesQ c a i = false := by unfold seesQ; rw [decide_eq_false h2]; simp
    have d1 : decide (i < (c.pp.length : Int)) = false := decide_eq_false h2
    rw [e1]
    clear e1 hh h1 h2 HC
    generalize c.pp.length = n at *
    go_enter Try.func11, Try.ntmps11
    go_upto_region 1 with fail
    go_quiet (fail)
    go_wp2_with fail
    go_ret
    exact ⟨rfl, (HB.out _).trans ((below_draw _ _).mono (HB.out _).size)⟩
  obtain ⟨m, rfl⟩ := Int.eq_ofNat_of_zero_le h0
  have hm : m < c.pp.length := by omega
  obtain ⟨g, o, csx, e2, -, ⟨u, e3⟩, hx⟩ := hh m hm
  subst e2 e3
  have e1 : seesQ c a (m : Int) = seesP c a (c.pp.getD m default) := by
    unfold seesQ
    rw [decide_eq_true h0, decide_eq_true h2, Int.toNat_natCast]
    rfl
  rw [e1]
  have HX : Hid (∀ W, Below w.heap.size w W → W.cell? ⟨g, o + m * 2, none⟩ = some (.int .i64 (c.pp.getD m default))) := hd fun W hb => hx W hb 0 _ rfl
  clear e1 hh h1 hx hm
  generalize c.pp.getD m default = l at *
  have HP : Hid (∀ W, Below w.heap.size w W → Calls Try.prog 17 #[.agg #[v0, v1, v2, v3, v4, v5, .slice (some ⟨g, o, none⟩) c.pp.length lc], .int .i64 l, .int .u64 (a : Int)] W fun e w' => e = .returned (.bool (seesP c a l)) ∧ Below W.heap.size W w') := hd fun W hb => seesPart_any (HC.out.below hb) l a ha
  clear HC
  generalize seesP c a l = r at *
  generalize c.pp.length = n at *
  go_enter Try.func11, Try.ntmps11
  go_upto_region 1 with fail
  obtain ⟨W0, hW0⟩ : ∃ W, Hid (w.alloc (.cells #[v0, v1, v2, v3, v4, v5, .slice (some ⟨g, o, none⟩) n lc] 26) = W) := ⟨_, rfl⟩
  have h1 := one_box (w := w) #[v0, v1, v2, v3, v4, v5, .slice (some ⟨g, o, none⟩) n lc] 26
  rw [hW0.out] at h1 ⊢
  obtain ⟨B, hB⟩ : ∃ n, Hid (w.heap.size = n) := ⟨_, rfl⟩
  rw [hB.out] at h1
  rw [hB.out]
  obtain ⟨h1, h2⟩ := h1
  rw [← hB.out] at h2
  have HG : Hid (∀ W, Below W0.heap.size W0 W → W.cell? ⟨B, 0, none⟩ = some v0 ∧ W.cell? ⟨B, 1, none⟩ = some v1 ∧ W.cell? ⟨B, 2, none⟩ = some v2 ∧ W.cell? ⟨B, 3, none⟩ = some v3 ∧ W.cell? ⟨B, 4, none⟩ = some v4 ∧ W.cell? ⟨B, 5, none⟩ = some v5 ∧ W.cell? ⟨B, 6, none⟩ = some (.slice (some ⟨g, o, none⟩) n lc) ∧ W.cell? ⟨g, o + m * 2, none⟩ = some (.int .i64 l)) := hd (fun W hb => ⟨box_at1 (h1 W hb) rfl, box_at1 (h1 W hb) rfl, box_at1 (h1 W hb) rfl, box_at1 (h1 W hb) rfl, box_at1 (h1 W hb) rfl, box_at1 (h1 W hb) rfl, box_at1 (h1 W hb) rfl, HX.out W (h2.trans (hb.mono h2.size))⟩)
  have H2 := hd h2
  have hst := HP.out W0.drew (h2.trans ((bel_drew W0).mono h2.size))
  obtain ⟨f0, f1, f2, f3, f4, f5, f6, f7⟩ := HG.out W0 (below_same W0)
  clear h1 h2 hW0 HX HB
  go_cut [6] (fun v6x wy => v6x = .bool r ∧ Hid (Below w.heap.size w wy))
  case first =>
    go_region_held3 (fun w' => w'.cell? ⟨B, 0, none⟩ = some v0 ∧ w'.cell? ⟨B, 1, none⟩ = some v1 ∧ w'.cell? ⟨B, 2, none⟩ = some v2 ∧ w'.cell? ⟨B, 3, none⟩ = some v3 ∧ w'.cell? ⟨B, 4, none⟩ = some v4 ∧ w'.cell? ⟨B, 5, none⟩ = some v5 ∧ w'.cell? ⟨B, 6, none⟩ = some (.slice (some ⟨g, o, none⟩) n lc) ∧ w'.cell? ⟨g, o + m * 2, none⟩ = some (.int .i64 l)) (go_keep)
      (first | (go_at_call 17; (with_reducible refine hst.mono ?_); rintro e w2 ⟨rfl, hb2⟩; have hb2' := hd (bel_dr hb2); obtain ⟨e0, e1, e2, e3, e4, e5, e6, e7⟩ := HG.out w2 hb2'.out))
    all_goals (
      go_wp2_with fail
      go_meet
      case rel => exact ⟨rfl, hd (H2.out.trans (hb2'.out.mono H2.out.size))⟩)
  case rest =>
    obtain ⟨rfl, hbc⟩ := hcut
    go_wp2_with fail
    go_ret
    exact ⟨rfl, hbc.out⟩
set_option maxRecDepth 100000 in
set_option maxHeartbeats 2000000 in
theorem rsees_any {w : World} {cs : List Value} {c : CfX} (hc : fE w cs c) (i : Int) (a : Nat) (ha : a < 18446744073709551616) : Calls Try.prog 12 #[.agg cs.toArray, .int .i64 i, .int .u64 (a : Int)] w fun e w' => e = .returned (.bool (seesQ c a i)) ∧ Below w.heap.size w w' := by
  have HC := hd hc
  obtain ⟨v0, v1, v2, v3, v4, v5, v6, rfl, -, h1⟩ := hc
  obtain ⟨la, lc, rfl, hl, hh⟩ := h1.at' (by decide)
  unfold BIG at hl
  have HB : Hid (∀ o, Below w.heap.size w (w.alloc o)) := hd (below_al w)
  by_cases h0 : 0 ≤ i
  case neg =>
    have e1 : seesQ c a i = false := by unfold seesQ; rw [decide_eq_false h0]; rfl
    have d1 : decide (0 ≤ i) = false := decide_eq_false h0
    rw [e1]
    clear e1 hh h1 h0 hl HC
    generalize c.pp.length = n at *
    go_enter Try.func12, Try.ntmps12
    go_upto_region 1 with fail
    go_quiet (fail)
    go_wp2_with fail
    go_ret
    exact ⟨rfl, (HB.out _).trans ((below_draw _ _).mono (HB.out _).size)⟩
  by_cases h2 : i < (c.pp.length : Int)
  case neg =>
    have e1 : seesQ c a i = false := by unfold seesQ; rw [decide_eq_false h2]; simp
    have d1 : decide (i < (c.pp.length : Int)) = false := decide_eq_false h2
    rw [e1]
    clear e1 hh h1 h2 HC
    generalize c.pp.length = n at *
    go_enter Try.func12, Try.ntmps12
    go_upto_region 1 with fail
    go_quiet (fail)
    go_wp2_with fail
    go_ret
    exact ⟨rfl, (HB.out _).trans ((below_draw _ _).mono (HB.out _).size)⟩
  obtain ⟨m, rfl⟩ := Int.eq_ofNat_of_zero_le h0
  have hm : m < c.pp.length := by omega
  obtain ⟨g, o, csx, e2, -, ⟨u, e3⟩, hx⟩ := hh m hm
  subst e2 e3
  have e1 : seesQ c a (m : Int) = seesP c a (c.pp.getD m default) := by
    unfold seesQ
    rw [decide_eq_true h0, decide_eq_true h2, Int.toNat_natCast]
    rfl
  rw [e1]
  have HX : Hid (∀ W, Below w.heap.size w W → W.cell? ⟨g, o + m * 2, none⟩ = some (.int .i64 (c.pp.getD m default))) := hd fun W hb => hx W hb 0 _ rfl
  clear e1 hh h1 hx hm
  generalize c.pp.getD m default = l at *
  have HP : Hid (∀ W, Below w.heap.size w W → Calls Try.prog 20 #[.agg #[v0, v1, v2, v3, v4, v5, .slice (some ⟨g, o, none⟩) c.pp.length lc], .int .i64 l, .int .u64 (a : Int)] W fun e w' => e = .returned (.bool (seesP c a l)) ∧ Below W.heap.size W w') := hd fun W hb => rpart_any (HC.out.below hb) l a ha
  clear HC
  generalize seesP c a l = r at *
  generalize c.pp.length = n at *
  go_enter Try.func12, Try.ntmps12
  go_upto_region 1 with fail
  obtain ⟨W0, hW0⟩ : ∃ W, Hid (w.alloc (.cells #[v0, v1, v2, v3, v4, v5, .slice (some ⟨g, o, none⟩) n lc] 26) = W) := ⟨_, rfl⟩
  have h1 := one_box (w := w) #[v0, v1, v2, v3, v4, v5, .slice (some ⟨g, o, none⟩) n lc] 26
  rw [hW0.out] at h1 ⊢
  obtain ⟨B, hB⟩ : ∃ n, Hid (w.heap.size = n) := ⟨_, rfl⟩
  rw [hB.out] at h1
  rw [hB.out]
  obtain ⟨h1, h2⟩ := h1
  rw [← hB.out] at h2
  have HG : Hid (∀ W, Below W0.heap.size W0 W → W.cell? ⟨B, 0, none⟩ = some v0 ∧ W.cell? ⟨B, 1, none⟩ = some v1 ∧ W.cell? ⟨B, 2, none⟩ = some v2 ∧ W.cell? ⟨B, 3, none⟩ = some v3 ∧ W.cell? ⟨B, 4, none⟩ = some v4 ∧ W.cell? ⟨B, 5, none⟩ = some v5 ∧ W.cell? ⟨B, 6, none⟩ = some (.slice (some ⟨g, o, none⟩) n lc) ∧ W.cell? ⟨g, o + m * 2, none⟩ = some (.int .i64 l)) := hd (fun W hb => ⟨box_at1 (h1 W hb) rfl, box_at1 (h1 W hb) rfl, box_at1 (h1 W hb) rfl, box_at1 (h1 W hb) rfl, box_at1 (h1 W hb) rfl, box_at1 (h1 W hb) rfl, box_at1 (h1 W hb) rfl, HX.out W (h2.trans (hb.mono h2.size))⟩)
  have H2 := hd h2
  have hst := HP.out W0.drew (h2.trans ((bel_drew W0).mono h2.size))
  obtain ⟨f0, f1, f2, f3, f4, f5, f6, f7⟩ := HG.out W0 (below_same W0)
  clear h1 h2 hW0 HX HB
  go_cut [6] (fun v6x wy => v6x = .bool r ∧ Hid (Below w.heap.size w wy))
  case first =>
    go_region_held3 (fun w' => w'.cell? ⟨B, 0, none⟩ = some v0 ∧ w'.cell? ⟨B, 1, none⟩ = some v1 ∧ w'.cell? ⟨B, 2, none⟩ = some v2 ∧ w'.cell? ⟨B, 3, none⟩ = some v3 ∧ w'.cell? ⟨B, 4, none⟩ = some v4 ∧ w'.cell? ⟨B, 5, none⟩ = some v5 ∧ w'.cell? ⟨B, 6, none⟩ = some (.slice (some ⟨g, o, none⟩) n lc) ∧ w'.cell? ⟨g, o + m * 2, none⟩ = some (.int .i64 l)) (go_keep)
      (first | (go_at_call 20; (with_reducible refine hst.mono ?_); rintro e w2 ⟨rfl, hb2⟩; have hb2' := hd (bel_dr hb2); obtain ⟨e0, e1, e2, e3, e4, e5, e6, e7⟩ := HG.out w2 hb2'.out))
    all_goals (
      go_wp2_with fail
      go_meet
      case rel => exact ⟨rfl, hd (H2.out.trans (hb2'.out.mono H2.out.size))⟩)
  case rest =>
    obtain ⟨rfl, hbc⟩ := hcut
    go_wp2_with fail
    go_ret
    exact ⟨rfl, hbc.out⟩
end Go.Proofs.Ytjbmljheepomnaa
