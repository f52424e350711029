/- May: its parts. -/
import Derived.Test.YtmjokinagbpihaaDoorQD1
import Derived.Test.YtmjokinagbpihaaDoorCW6
namespace Go.Proofs.YtmjokinagbpihaaDoor
open Go.RowKit

theorem prg_of_rd {w : World} {a : Option Addr} {l : List Ins} (h : Rd w a (pCells l)) : Prg w a l := fun i hi => by
  have h0 := pCells_at l i 0 hi (by omega)
  rw [Nat.add_zero] at h0
  obtain ⟨b, o, rfl, c0⟩ := h (i * 5) (.int .i64 (l.getD i default).op) h0
  refine ⟨b, o, rfl, ?_⟩
  have hk : ∀ r u, r < 5 → (insCells (l.getD i default))[r]? = some u → w.cell? ⟨b, o + i * 5 + r, none⟩ = some u := fun r u hr hu => by
    obtain ⟨b', o', e, hc⟩ := h (i * 5 + r) u ((pCells_at l i r hi hr).trans hu)
    cases e
    rw [Nat.add_assoc]
    exact hc
  exact ⟨hk 0 _ (by omega) rfl, hk 1 _ (by omega) rfl, hk 2 _ (by omega) rfl, hk 3 _ (by omega) rfl, hk 4 _ (by omega) rfl⟩

def nmV (c : Cfg) : Value := .agg #[.int .i64 c.fuel, .int .i64 c.lane, .int .i64 c.locks, .int .i64 c.log]

set_option maxRecDepth 100000 in
theorem cnum_any (c : Cfg) (g : Loc) (w : World) :
    Calls Tryd.prog 28 #[cfV c g] w fun e w' => e = .returned (nmV c) ∧ Below w.heap.size w w' := by
  unfold cfV cfA nmV
  obtain ⟨w1, hw1⟩ : ∃ W, Hid (((w.alloc (.cells #[.slice g.la c.labels.length g.lc, .slice g.ta c.table.length g.tc, .int .i64 c.fuel, .int .i64 c.lane, .int .i64 c.locks, .int .i64 c.log, .slice g.pa c.procs.length g.pc] 27)).alloc (.cells #[.int .i64 c.fuel, .int .i64 c.lane, .int .i64 c.locks, .int .i64 c.log] 53)) = W) := ⟨_, rfl⟩
  have hb : Below w.heap.size w w1 := by rw [← hw1.out]; exact ((Below.refl _ w).alloc (Nat.le_refl _) _).alloc (by simp) _
  have HB := hd hb
  have hh : w1.heap[w.heap.size + 1]? = some (.cells #[.int .i64 c.fuel, .int .i64 c.lane, .int .i64 c.locks, .int .i64 c.log] 53 (0, 0)) := by
    rw [← hw1.out, show w.heap.size + 1 = (w.alloc (.cells #[.slice g.la c.labels.length g.lc, .slice g.ta c.table.length g.tc, .int .i64 c.fuel, .int .i64 c.lane, .int .i64 c.locks, .int .i64 c.log, .slice g.pa c.procs.length g.pc] 27)).heap.size by simp]
    exact heap_alloc_new _ _
  have d0 := cell_of_row w1 _ 0 _ _ _ hh
  have d1 := cell_of_row w1 _ 1 _ _ _ hh
  have d2 := cell_of_row w1 _ 2 _ _ _ hh
  have d3 := cell_of_row w1 _ 3 _ _ _ hh
  simp at d0 d1 d2 d3
  clear hb hh
  go_enter Tryd.func28, Tryd.ntmps28
  go_wp2_with fail
  rw [hw1.out]
  refine bodyPost_ret (v := .agg #[.int .i64 c.fuel, .int .i64 c.lane, .int .i64 c.locks, .int .i64 c.log]) ?_ rfl ⟨rfl, HB.out⟩
  simp [results, Tryd.results28, go_sem, d0, d1, d2, d3]

set_option maxRecDepth 100000 in
theorem mayRun_any (m : PrM) (P K : Int) (w : World) (hP : 0 ≤ P ∧ P ≤ 8) (hR : Rd w m.a (pCells m.p.code)) (hF : Fld w) :
    Calls Tryd.prog 31 #[.agg #[.int .i64 m.p.part, .slice m.a m.p.code.length m.c], .int .i64 P, .int .i64 K] w fun e w' => e = .returned (.int .i64 (prE P K m.p)) ∧ Below w.heap.size w w' := by
  have hwi := within_any m.p.part 0 (P - 1)
  have eP : IntKind.i64.wrap (P - 1) = P - 1 := by rw [IntKind.wrap_i64]; omega
  have hb := below_al w (.cells #[.int .i64 m.p.part, .slice m.a m.p.code.length m.c] 42)
  have hm := may_any m.a m.c m.p.code K _ (prg_of_rd (hR.below hb)) (hF.kept hb)
  have HB := hd hb
  obtain ⟨E, hE⟩ : ∃ E, Hid (prE P K m.p = E) := ⟨_, rfl⟩
  rw [hE.out]
  by_cases h0 : rngE 0 (P - 1) m.p.part = 0
  · obtain rfl : E = (mayL m.p.code K).1 := by rw [← hE.out, prE, if_neg (by simp [h0])]
    rw [h0] at hwi
    clear hb hE h0
    generalize (mayL m.p.code K).1 = E at *
    generalize (mayL m.p.code K).2 = D at *
    obtain ⟨⟨part, code⟩, ma, mc⟩ := m
    simp only at *
    go_enter Tryd.func31, Tryd.ntmps31
    go_wp2_with (first | (go_at_call 29; refine (hwi _).mono ?_; rintro e w1 ⟨rfl, rfl⟩) | (go_at_call 50; refine hm.mono ?_; rintro e w2 ⟨rfl, hb2⟩))
    go_ret
    exact ⟨rfl, HB.out.trans (hb2.mono HB.out.size)⟩
  · obtain rfl : E = 2 := by rw [← hE.out, prE, if_pos h0]
    have h2 : rngE 0 (P - 1) m.p.part = 2 := by
      unfold rngE at h0 ⊢
      split at h0
      · exact absurd rfl h0
      · next hh => rw [if_neg hh]
    rw [h2] at hwi
    clear hb hE h0 h2 hm
    obtain ⟨⟨part, code⟩, ma, mc⟩ := m
    simp only at *
    go_enter Tryd.func31, Tryd.ntmps31
    go_wp2_with (first | (go_at_call 29; refine (hwi _).mono ?_; rintro e w1 ⟨rfl, rfl⟩))
    go_ret
    exact ⟨rfl, HB.out⟩
end Go.Proofs.YtmjokinagbpihaaDoor
