/- Skeleton: the walk. -/
import Derived.Test.YtmjokinagbpihaaDoorGQs
namespace Go.Proofs.YtmjokinagbpihaaDoor
open Go.RowKit

set_option maxRecDepth 100000 in
set_option maxHeartbeats 4000000 in
theorem skel_any (c d : Cfg) (g h : Loc) (w : World) (hR : CfR w c g) (hS : CfR w d h) (hl : c.labels.length ≤ 9223372036854775807 ∧ c.table.length ≤ 9223372036854775807 ∧ c.procs.length ≤ 9223372036854775807) :
    Calls Tryd.prog 14 #[cfV c g, cfV d h] w fun e w' => e = .returned (.bool (skB c d)) ∧ Below w.heap.size w w' := by
  obtain ⟨r, hr⟩ : ∃ r, Hid (skB c d = r) := ⟨_, rfl⟩
  rw [hr.out]
  unfold cfV cfA
  obtain ⟨w1, hw1⟩ : ∃ W, Hid ((w.alloc (.cells #[.slice g.la c.labels.length g.lc, .slice g.ta c.table.length g.tc, .int .i64 c.fuel, .int .i64 c.lane, .int .i64 c.locks, .int .i64 c.log, .slice g.pa c.procs.length g.pc] 27)).alloc (.cells #[.slice h.la d.labels.length h.lc, .slice h.ta d.table.length h.tc, .int .i64 d.fuel, .int .i64 d.lane, .int .i64 d.locks, .int .i64 d.log, .slice h.pa d.procs.length h.pc] 27) = W) := ⟨_, rfl⟩
  have B1 : Hid (Below w.heap.size w w1) := hd (by rw [← hw1.out]; exact ((Below.refl _ w).alloc (Nat.le_refl _) _).alloc (by simp) _)
  obtain ⟨G, hG⟩ : ∃ G, Hid (w.heap.size = G) := ⟨_, rfl⟩
  have HG : Hid (w1.heap[G]? = some (.cells #[.slice g.la c.labels.length g.lc, .slice g.ta c.table.length g.tc, .int .i64 c.fuel, .int .i64 c.lane, .int .i64 c.locks, .int .i64 c.log, .slice g.pa c.procs.length g.pc] 27 (0, 0))) := hd (by rw [← hw1.out, ← hG.out, (below_al _ _).block _ (by simp)]; exact heap_alloc_new w _)
  have HH : Hid (w1.heap[G + 1]? = some (.cells #[.slice h.la d.labels.length h.lc, .slice h.ta d.table.length h.tc, .int .i64 d.fuel, .int .i64 d.lane, .int .i64 d.locks, .int .i64 d.log, .slice h.pa d.procs.length h.pc] 27 (0, 0))) := hd (by
    rw [← hw1.out, ← hG.out, show w.heap.size + 1 = (w.alloc (.cells #[.slice g.la c.labels.length g.lc, .slice g.ta c.table.length g.tc, .int .i64 c.fuel, .int .i64 c.lane, .int .i64 c.locks, .int .i64 c.log, .slice g.pa c.procs.length g.pc] 27)).heap.size by simp]
    exact heap_alloc_new _ _)
  have x0 : ∀ p : BelW w1, p.val.cell? ⟨G, 0, none⟩ = some (.slice g.la c.labels.length g.lc) := fun p => cell_of_row _ _ _ _ _ _ ((p.bel.block G (Array.getElem?_eq_some_iff.1 HG.out).1).trans HG.out)
  have y0 : ∀ p : BelW w1, p.val.cell? ⟨G + 1, 0, none⟩ = some (.slice h.la d.labels.length h.lc) := fun p => cell_of_row _ _ _ _ _ _ ((p.bel.block (G + 1) (Array.getElem?_eq_some_iff.1 HH.out).1).trans HH.out)
  have x1 : ∀ p : BelW w1, p.val.cell? ⟨G, 1, none⟩ = some (.slice g.ta c.table.length g.tc) := fun p => cell_of_row _ _ _ _ _ _ ((p.bel.block G (Array.getElem?_eq_some_iff.1 HG.out).1).trans HG.out)
  have y1 : ∀ p : BelW w1, p.val.cell? ⟨G + 1, 1, none⟩ = some (.slice h.ta d.table.length h.tc) := fun p => cell_of_row _ _ _ _ _ _ ((p.bel.block (G + 1) (Array.getElem?_eq_some_iff.1 HH.out).1).trans HH.out)
  have x2 : ∀ p : BelW w1, p.val.cell? ⟨G, 2, none⟩ = some (.int .i64 c.fuel) := fun p => cell_of_row _ _ _ _ _ _ ((p.bel.block G (Array.getElem?_eq_some_iff.1 HG.out).1).trans HG.out)
  have y2 : ∀ p : BelW w1, p.val.cell? ⟨G + 1, 2, none⟩ = some (.int .i64 d.fuel) := fun p => cell_of_row _ _ _ _ _ _ ((p.bel.block (G + 1) (Array.getElem?_eq_some_iff.1 HH.out).1).trans HH.out)
  have x3 : ∀ p : BelW w1, p.val.cell? ⟨G, 3, none⟩ = some (.int .i64 c.lane) := fun p => cell_of_row _ _ _ _ _ _ ((p.bel.block G (Array.getElem?_eq_some_iff.1 HG.out).1).trans HG.out)
  have y3 : ∀ p : BelW w1, p.val.cell? ⟨G + 1, 3, none⟩ = some (.int .i64 d.lane) := fun p => cell_of_row _ _ _ _ _ _ ((p.bel.block (G + 1) (Array.getElem?_eq_some_iff.1 HH.out).1).trans HH.out)
  have x4 : ∀ p : BelW w1, p.val.cell? ⟨G, 4, none⟩ = some (.int .i64 c.locks) := fun p => cell_of_row _ _ _ _ _ _ ((p.bel.block G (Array.getElem?_eq_some_iff.1 HG.out).1).trans HG.out)
  have y4 : ∀ p : BelW w1, p.val.cell? ⟨G + 1, 4, none⟩ = some (.int .i64 d.locks) := fun p => cell_of_row _ _ _ _ _ _ ((p.bel.block (G + 1) (Array.getElem?_eq_some_iff.1 HH.out).1).trans HH.out)
  have x5 : ∀ p : BelW w1, p.val.cell? ⟨G, 5, none⟩ = some (.int .i64 c.log) := fun p => cell_of_row _ _ _ _ _ _ ((p.bel.block G (Array.getElem?_eq_some_iff.1 HG.out).1).trans HG.out)
  have y5 : ∀ p : BelW w1, p.val.cell? ⟨G + 1, 5, none⟩ = some (.int .i64 d.log) := fun p => cell_of_row _ _ _ _ _ _ ((p.bel.block (G + 1) (Array.getElem?_eq_some_iff.1 HH.out).1).trans HH.out)
  have x6 : ∀ p : BelW w1, p.val.cell? ⟨G, 6, none⟩ = some (.slice g.pa c.procs.length g.pc) := fun p => cell_of_row _ _ _ _ _ _ ((p.bel.block G (Array.getElem?_eq_some_iff.1 HG.out).1).trans HG.out)
  have y6 : ∀ p : BelW w1, p.val.cell? ⟨G + 1, 6, none⟩ = some (.slice h.pa d.procs.length h.pc) := fun p => cell_of_row _ _ _ _ _ _ ((p.bel.block (G + 1) (Array.getElem?_eq_some_iff.1 HH.out).1).trans HH.out)
  have q1 : ∀ p : BelW w1, Calls Tryd.prog 40 #[.slice g.la c.labels.length g.lc, .slice h.la d.labels.length h.lc] p.val fun e w'' => e = .returned (.bool (c.labels == d.labels)) ∧ ∃ p' : BelW w1, w'' = p'.val := fun p =>
    (eqU_any g.la h.la g.lc h.lc c.labels d.labels p.val ((hR.lab.below B1.out).below p.bel) ((hS.lab.below B1.out).below p.bel) hl.1).mono fun e w' ⟨he, n, hw⟩ => ⟨he, ⟨w', by rw [hw]; exact p.bel.trans ((below_draw p.val n).mono p.bel.size)⟩, rfl⟩
  have q2 : ∀ p : BelW w1, Calls Tryd.prog 41 #[.slice g.ta c.table.length g.tc, .slice h.ta d.table.length h.tc] p.val fun e w'' => e = .returned (.bool (c.table == d.table)) ∧ ∃ p' : BelW w1, w'' = p'.val := fun p =>
    (eqI_any g.ta h.ta g.tc h.tc c.table d.table p.val ((hR.tab.below B1.out).below p.bel) ((hS.tab.below B1.out).below p.bel) hl.2.1).mono fun e w' ⟨he, n, hw⟩ => ⟨he, ⟨w', by rw [hw]; exact p.bel.trans ((below_draw p.val n).mono p.bel.size)⟩, rfl⟩
  have q3 : ∀ p : BelW w1, Calls Tryd.prog 28 #[.agg #[.slice g.la c.labels.length g.lc, .slice g.ta c.table.length g.tc, .int .i64 c.fuel, .int .i64 c.lane, .int .i64 c.locks, .int .i64 c.log, .slice g.pa c.procs.length g.pc]] p.val fun e w'' => e = .returned (.agg #[.int .i64 c.fuel, .int .i64 c.lane, .int .i64 c.locks, .int .i64 c.log]) ∧ ∃ p' : BelW w1, w'' = p'.val := fun p =>
    (cnum_any c g p.val).mono fun e w' ⟨he, hb⟩ => ⟨he, ⟨w', p.bel.trans (hb.mono p.bel.size)⟩, rfl⟩
  have q4 : ∀ p : BelW w1, Calls Tryd.prog 28 #[.agg #[.slice h.la d.labels.length h.lc, .slice h.ta d.table.length h.tc, .int .i64 d.fuel, .int .i64 d.lane, .int .i64 d.locks, .int .i64 d.log, .slice h.pa d.procs.length h.pc]] p.val fun e w'' => e = .returned (.agg #[.int .i64 d.fuel, .int .i64 d.lane, .int .i64 d.locks, .int .i64 d.log]) ∧ ∃ p' : BelW w1, w'' = p'.val := fun p =>
    (cnum_any d h p.val).mono fun e w' ⟨he, hb⟩ => ⟨he, ⟨w', p.bel.trans (hb.mono p.bel.size)⟩, rfl⟩
  have q5 : ∀ p : BelW w1, Calls Tryd.prog 42 #[.slice g.pa c.procs.length g.pc, .slice h.pa d.procs.length h.pc, .func (.func 43) #[] #[]] p.val fun e w'' => e = .returned (.bool (parts c.procs == parts d.procs)) ∧ ∃ p' : BelW w1, w'' = p'.val := fun p => by
    have h1 := eqF_any g.pa h.pa g.pc h.pc g.ms h.ms p.val ((hR.prs.below B1.out).below p.bel) ((hS.prs.below B1.out).below p.bel) (by rw [hR.len]; exact hl.2.2)
    rw [hR.len, hS.len, hR.ps, hS.ps] at h1
    exact h1.mono fun e w' ⟨he, hb⟩ => ⟨he, ⟨w', p.bel.trans (hb.mono p.bel.size)⟩, rfl⟩
  have e4 : ∀ W, (Op.equalIn 10000 53 (.agg #[.int .i64 c.fuel, .int .i64 c.lane, .int .i64 c.locks, .int .i64 c.log]) (.agg #[.int .i64 d.fuel, .int .i64 d.lane, .int .i64 d.locks, .int .i64 d.log])).run Tryd.prog W = .ok (nmE c d) W := fun W => eq4 _ _ _ _ _ _ _ _ 9998 W
  have HX : Hid (r = ((c.labels == d.labels) && ((c.table == d.table) && (nmE c d && (parts c.procs == parts d.procs))))) := hd hr.out.symm
  have nek : Nonempty (BelW w1) := ⟨⟨w1, below_same w1⟩⟩
  clear hR hS hl HG HH hr
  generalize (c.labels == d.labels) = b1 at *
  generalize (c.table == d.table) = b2 at *
  generalize nmE c d = b3 at *
  generalize (parts c.procs == parts d.procs) = b4 at *
  go_enter Tryd.func14, Tryd.ntmps14
  go_upto_region 1 with fail
  rw [hw1.out, hG.out]
  cases b1
  · obtain rfl : r = false := by rw [HX.out]; rfl
    refine wp_region_family (α := BelW w1) BelW.val (by kernel_rfl) (by kernel_rfl) ⟨w1.drew, below_draw w1 1⟩ rfl ?_
    repeat (go_big_quiet_step (first | with_reducible exact q1 _ | with_reducible exact q2 _ | with_reducible exact q3 _ | with_reducible exact q4 _ | with_reducible exact q5 _))
    refine wpQuiet_nil ?_
    rintro w' ⟨p, rfl⟩
    go_wp2_with fail
    go_ret
    exact ⟨rfl, B1.out.trans (p.bel.mono B1.out.size)⟩
  cases b2
  · obtain rfl : r = false := by rw [HX.out]; rfl
    refine wp_region_family (α := BelW w1) BelW.val (by kernel_rfl) (by kernel_rfl) ⟨w1.drew, below_draw w1 1⟩ rfl ?_
    repeat (go_big_quiet_step (first | with_reducible exact q1 _ | with_reducible exact q2 _ | with_reducible exact q3 _ | with_reducible exact q4 _ | with_reducible exact q5 _))
    refine wpQuiet_nil ?_
    rintro w' ⟨p, rfl⟩
    go_wp2_with fail
    go_ret
    exact ⟨rfl, B1.out.trans (p.bel.mono B1.out.size)⟩
  cases b3
  · obtain rfl : r = false := by rw [HX.out]; rfl
    refine wp_region_family (α := BelW w1) BelW.val (by kernel_rfl) (by kernel_rfl) ⟨w1.drew, below_draw w1 1⟩ rfl ?_
    repeat (go_big_quiet_step (first | with_reducible exact q1 _ | with_reducible exact q2 _ | with_reducible exact q3 _ | with_reducible exact q4 _ | with_reducible exact q5 _))
    refine wpQuiet_nil ?_
    rintro w' ⟨p, rfl⟩
    go_wp2_with fail
    go_ret
    exact ⟨rfl, B1.out.trans (p.bel.mono B1.out.size)⟩
  · obtain rfl : r = b4 := by rw [HX.out]; simp
    refine wp_region_family (α := BelW w1) BelW.val (by kernel_rfl) (by kernel_rfl) ⟨w1.drew, below_draw w1 1⟩ rfl ?_
    repeat (go_big_quiet_step (first | with_reducible exact q1 _ | with_reducible exact q2 _ | with_reducible exact q3 _ | with_reducible exact q4 _ | with_reducible exact q5 _))
    refine wpQuiet_nil ?_
    rintro w' ⟨p, rfl⟩
    go_wp2_with fail
    go_ret
    exact ⟨rfl, B1.out.trans (p.bel.mono B1.out.size)⟩

end Go.Proofs.YtmjokinagbpihaaDoor
