/- ConfMays: May, bytes and skeletons as the document has them. -/
import Derived.Test.YtmjokinagbpihaaDoorKM4
import Derived.Test.YtmjokinagbpihaaDoorQR1
namespace Go.Proofs.YtmjokinagbpihaaDoor
open Go.RowKit

theorem beq_symm' {α : Type} [BEq α] [LawfulBEq α] (x y : α) : (x == y) = (y == x) := by
  by_cases h : x = y
  · subst h; rfl
  · rw [beq_eq_false_iff_ne.2 h, beq_eq_false_iff_ne.2 (fun e => h e.symm)]
theorem nmE_symm (c d : Cfg) : nmE c d = nmE d c := by
  unfold nmE
  rw [beq_symm' c.fuel, beq_symm' c.lane, beq_symm' c.locks, beq_symm' c.log]
theorem skB_symm (c d : Cfg) : skB c d = skB d c := by
  unfold skB
  rw [nmE_symm c d, beq_symm' c.labels, beq_symm' c.table, beq_symm' (parts c.procs)]
theorem skB_refl (c : Cfg) : skB c c = true := by simp [skB, nmE]

set_option maxRecDepth 100000 in
set_option maxHeartbeats 8000000 in
theorem confMays_any (c : Cfg) (g : Loc) (d : Cfg) (h : Loc) (w : World) (hR : CfR w c g) (hS : CfR w d h) (hlc : c.labels.length ≤ 9223372036854775807 ∧ c.table.length ≤ 9223372036854775807 ∧ c.procs.length ≤ 9223372036854775807) (hld : d.labels.length ≤ 9223372036854775807 ∧ d.table.length ≤ 9223372036854775807 ∧ d.procs.length ≤ 9223372036854775807) (hF : Fld w) (hL : Lim w) :
    Calls Tryd.prog 4 #[cfV c g, cfV d h] w fun e w' => e = .returned (.bool true) ∧ Below w.heap.size w w' := by
  unfold cfV cfA
  replace hlc := hd hlc
  replace hld := hd hld
  obtain ⟨w0, hw0⟩ : ∃ W, Hid ((w.alloc (.cells #[.slice g.la c.labels.length g.lc, .slice g.ta c.table.length g.tc, .int .i64 c.fuel, .int .i64 c.lane, .int .i64 c.locks, .int .i64 c.log, .slice g.pa c.procs.length g.pc] 27)).alloc (.cells #[.slice h.la d.labels.length h.lc, .slice h.ta d.table.length h.tc, .int .i64 d.fuel, .int .i64 d.lane, .int .i64 d.locks, .int .i64 d.log, .slice h.pa d.procs.length h.pc] 27) = W) := ⟨_, rfl⟩
  have x0 : Below w.heap.size w w0 := by rw [← hw0.out]; exact ((Below.refl _ w).alloc (Nat.le_refl _) _).alloc (by simp) _
  have B0 : Hid (Below w.heap.size w w0) := hd x0
  have HG : Hid (w0.heap[w.heap.size]? = some (.cells #[.slice g.la c.labels.length g.lc, .slice g.ta c.table.length g.tc, .int .i64 c.fuel, .int .i64 c.lane, .int .i64 c.locks, .int .i64 c.log, .slice g.pa c.procs.length g.pc] 27 (0, 0))) := hd (by rw [← hw0.out, (below_al _ _).block _ (by simp)]; exact heap_alloc_new w _)
  have HH : Hid (w0.heap[w.heap.size + 1]? = some (.cells #[.slice h.la d.labels.length h.lc, .slice h.ta d.table.length h.tc, .int .i64 d.fuel, .int .i64 d.lane, .int .i64 d.locks, .int .i64 d.log, .slice h.pa d.procs.length h.pc] 27 (0, 0))) := hd (by
    rw [← hw0.out, show w.heap.size + 1 = (w.alloc (.cells #[.slice g.la c.labels.length g.lc, .slice g.ta c.table.length g.tc, .int .i64 c.fuel, .int .i64 c.lane, .int .i64 c.locks, .int .i64 c.log, .slice g.pa c.procs.length g.pc] 27)).heap.size by simp]
    exact heap_alloc_new _ _)
  have HRk : Hid (∀ W, Below w0.heap.size w0 W → CfR W c g) := hd (fun W hW => (hR.below x0).below hW)
  have HSk : Hid (∀ W, Below w0.heap.size w0 W → CfR W d h) := hd (fun W hW => (hS.below x0).below hW)
  have HFk : Hid (∀ W, Below w0.heap.size w0 W → Fld W) := hd (fun W hW => (hF.kept x0).kept hW)
  have HLk : Hid (∀ W, Below w0.heap.size w0 W → Lim W) := hd (fun W hW => (hL.kept x0).kept hW)
  obtain ⟨G, hG⟩ : ∃ G, Hid (w.heap.size = G) := ⟨_, rfl⟩
  obtain ⟨H, hH⟩ : ∃ G, Hid (w.heap.size + 1 = G) := ⟨_, rfl⟩
  rw [hG.out] at HG
  rw [hH.out] at HH
  rw [hG.out] at hH
  have K0 : Hid (∀ W, Below w0.heap.size w0 W → (W.cell? ⟨G, 0, none⟩ = some (.slice g.la c.labels.length g.lc) ∧ W.cell? ⟨G, 1, none⟩ = some (.slice g.ta c.table.length g.tc) ∧ W.cell? ⟨G, 2, none⟩ = some (.int .i64 c.fuel) ∧ W.cell? ⟨G, 3, none⟩ = some (.int .i64 c.lane) ∧ W.cell? ⟨G, 4, none⟩ = some (.int .i64 c.locks) ∧ W.cell? ⟨G, 5, none⟩ = some (.int .i64 c.log) ∧ W.cell? ⟨G, 6, none⟩ = some (.slice g.pa c.procs.length g.pc)) ∧ (W.cell? ⟨H, 0, none⟩ = some (.slice h.la d.labels.length h.lc) ∧ W.cell? ⟨H, 1, none⟩ = some (.slice h.ta d.table.length h.tc) ∧ W.cell? ⟨H, 2, none⟩ = some (.int .i64 d.fuel) ∧ W.cell? ⟨H, 3, none⟩ = some (.int .i64 d.lane) ∧ W.cell? ⟨H, 4, none⟩ = some (.int .i64 d.locks) ∧ W.cell? ⟨H, 5, none⟩ = some (.int .i64 d.log) ∧ W.cell? ⟨H, 6, none⟩ = some (.slice h.pa d.procs.length h.pc))) := hd (fun W hW => by
    have h1 : W.heap[G]? = _ := (hW.block G (Array.getElem?_eq_some_iff.1 HG.out).1).trans HG.out
    have h2 : W.heap[H]? = _ := (hW.block H (Array.getElem?_eq_some_iff.1 HH.out).1).trans HH.out
    exact ⟨⟨cell_of_row W G 0 _ _ _ h1, cell_of_row W G 1 _ _ _ h1, cell_of_row W G 2 _ _ _ h1, cell_of_row W G 3 _ _ _ h1, cell_of_row W G 4 _ _ _ h1, cell_of_row W G 5 _ _ _ h1, cell_of_row W G 6 _ _ _ h1⟩, ⟨cell_of_row W H 0 _ _ _ h2, cell_of_row W H 1 _ _ _ h2, cell_of_row W H 2 _ _ _ h2, cell_of_row W H 3 _ _ _ h2, cell_of_row W H 4 _ _ _ h2, cell_of_row W H 5 _ _ _ h2, cell_of_row W H 6 _ _ _ h2⟩⟩)
  have h1 := awake_any w0 (HFk.out w0 (below_same w0)) (HLk.out w0 (below_same w0))
  clear hR hS hF hL x0 HG HH
  go_enter Tryd.func4, Tryd.ntmps4
  go_upto_region 1 with fail
  rw [hw0.out, hG.out, hH.out]
  clear hw0 hG hH
  go_upto_region 3 with (go_at_call 9; refine h1.mono ?_; rintro e w1 ⟨rfl, b1⟩; replace b1 := hd b1)
  clear h1
  have hmay : Calls Tryd.prog 10 #[.agg #[.slice g.la c.labels.length g.lc, .slice g.ta c.table.length g.tc, .int .i64 c.fuel, .int .i64 c.lane, .int .i64 c.locks, .int .i64 c.log, .slice g.pa c.procs.length g.pc]] w1 fun e w' => e = .returned (.tuple #[.int .i64 (mayC c).1, .int .i64 (mayC c).2]) ∧ Below w1.heap.size w1 w' := cmay_any c g w1 (HRk.out w1 b1.out) (HFk.out w1 b1.out) (HLk.out w1 b1.out)
  obtain ⟨⟨c0, c1, c2, c3, c4, c5, c6⟩, -⟩ := K0.out w1 b1.out
  go_upto_region 4 with (go_at_call 10; refine hmay.mono ?_; rintro e w2 ⟨rfl, b2⟩; replace b2 := hd b2)
  clear hmay c0 c1 c2 c3 c4 c5 c6
  have B2 : Hid (Below w0.heap.size w0 w2) := hd (b1.out.trans (b2.out.mono b1.out.size))
  have hmay : Calls Tryd.prog 11 #[.agg #[.slice g.la c.labels.length g.lc, .slice g.ta c.table.length g.tc, .int .i64 c.fuel, .int .i64 c.lane, .int .i64 c.locks, .int .i64 c.log, .slice g.pa c.procs.length g.pc]] w2 fun e w' => e = .returned (.tuple #[.int .i64 (mayC c).1, .int .i64 (mayC c).2]) ∧ Below w2.heap.size w2 w' := dmay_any c g w2 (HRk.out w2 B2.out)
  obtain ⟨⟨c0, c1, c2, c3, c4, c5, c6⟩, -⟩ := K0.out w2 B2.out
  go_upto_region 5 with (go_at_call 11; refine hmay.mono ?_; rintro e w3 ⟨rfl, b3⟩; replace b3 := hd b3)
  clear hmay c0 c1 c2 c3 c4 c5 c6
  have B3 : Hid (Below w0.heap.size w0 w3) := hd (B2.out.trans (b3.out.mono B2.out.size))
  by_cases hm : (mayC c).1 = 0
  · have henc : Calls Tryd.prog 12 #[.agg #[.slice g.la c.labels.length g.lc, .slice g.ta c.table.length g.tc, .int .i64 c.fuel, .int .i64 c.lane, .int .i64 c.locks, .int .i64 c.log, .slice g.pa c.procs.length g.pc]] w3 (EncOut w3 c) := cenc_ok c g w3 (HRk.out w3 B3.out) (HFk.out w3 B3.out) (HLk.out w3 B3.out) hm
    have HE2 : Hid (∀ W, Below w0.heap.size w0 W → Calls Tryd.prog 13 #[.agg #[.slice g.la c.labels.length g.lc, .slice g.ta c.table.length g.tc, .int .i64 c.fuel, .int .i64 c.lane, .int .i64 c.locks, .int .i64 c.log, .slice g.pa c.procs.length g.pc]] W (EncOut W c)) := hd (fun W hW => denc_ok c g W (HRk.out W hW) hm)
    unfold EncOut at henc HE2
    have hbE : Hid (Byte (encC c)) := hd (enc_byte c)
    generalize mayC c = M at *
    obtain ⟨M1, M2⟩ := M
    simp only at hm ⊢
    subst hm
    generalize encC c = xs at henc HE2 hbE
    obtain ⟨⟨c0, c1, c2, c3, c4, c5, c6⟩, -⟩ := K0.out w3 B3.out
    go_upto_region 6 with (go_at_call 12; refine henc.mono ?_; rintro e w4 ⟨ea, ec, rfl, hrow, hnew, b4⟩; replace hrow := hd hrow; clear hnew; replace b4 := hd b4)
    clear henc c0 c1 c2 c3 c4 c5 c6
    have B4 : Hid (Below w0.heap.size w0 w4) := hd (B3.out.trans (b4.out.mono B3.out.size))
    have henc := HE2.out w4 B4.out
    obtain ⟨⟨c0, c1, c2, c3, c4, c5, c6⟩, -⟩ := K0.out w4 B4.out
    go_upto_region 7 with (go_at_call 13; refine henc.mono ?_; rintro e w5 ⟨fa, fc, rfl, hrow2, hnew, b5⟩; replace hrow2 := hd hrow2; clear hnew; replace b5 := hd b5)
    clear henc HE2 c0 c1 c2 c3 c4 c5 c6
    have B5 : Hid (Below w0.heap.size w0 w5) := hd (B4.out.trans (b5.out.mono B4.out.size))
    have x0 : ∀ p : BelW w5, p.val.cell? ⟨G, 0, none⟩ = some (.slice g.la c.labels.length g.lc) := fun p => (K0.out p.val (B5.out.trans (p.bel.mono B5.out.size))).1.1
    have y0 : ∀ p : BelW w5, p.val.cell? ⟨H, 0, none⟩ = some (.slice h.la d.labels.length h.lc) := fun p => (K0.out p.val (B5.out.trans (p.bel.mono B5.out.size))).2.1
    have x1 : ∀ p : BelW w5, p.val.cell? ⟨G, 1, none⟩ = some (.slice g.ta c.table.length g.tc) := fun p => (K0.out p.val (B5.out.trans (p.bel.mono B5.out.size))).1.2.1
    have y1 : ∀ p : BelW w5, p.val.cell? ⟨H, 1, none⟩ = some (.slice h.ta d.table.length h.tc) := fun p => (K0.out p.val (B5.out.trans (p.bel.mono B5.out.size))).2.2.1
    have x2 : ∀ p : BelW w5, p.val.cell? ⟨G, 2, none⟩ = some (.int .i64 c.fuel) := fun p => (K0.out p.val (B5.out.trans (p.bel.mono B5.out.size))).1.2.2.1
    have y2 : ∀ p : BelW w5, p.val.cell? ⟨H, 2, none⟩ = some (.int .i64 d.fuel) := fun p => (K0.out p.val (B5.out.trans (p.bel.mono B5.out.size))).2.2.2.1
    have x3 : ∀ p : BelW w5, p.val.cell? ⟨G, 3, none⟩ = some (.int .i64 c.lane) := fun p => (K0.out p.val (B5.out.trans (p.bel.mono B5.out.size))).1.2.2.2.1
    have y3 : ∀ p : BelW w5, p.val.cell? ⟨H, 3, none⟩ = some (.int .i64 d.lane) := fun p => (K0.out p.val (B5.out.trans (p.bel.mono B5.out.size))).2.2.2.2.1
    have x4 : ∀ p : BelW w5, p.val.cell? ⟨G, 4, none⟩ = some (.int .i64 c.locks) := fun p => (K0.out p.val (B5.out.trans (p.bel.mono B5.out.size))).1.2.2.2.2.1
    have y4 : ∀ p : BelW w5, p.val.cell? ⟨H, 4, none⟩ = some (.int .i64 d.locks) := fun p => (K0.out p.val (B5.out.trans (p.bel.mono B5.out.size))).2.2.2.2.2.1
    have x5 : ∀ p : BelW w5, p.val.cell? ⟨G, 5, none⟩ = some (.int .i64 c.log) := fun p => (K0.out p.val (B5.out.trans (p.bel.mono B5.out.size))).1.2.2.2.2.2.1
    have y5 : ∀ p : BelW w5, p.val.cell? ⟨H, 5, none⟩ = some (.int .i64 d.log) := fun p => (K0.out p.val (B5.out.trans (p.bel.mono B5.out.size))).2.2.2.2.2.2.1
    have x6 : ∀ p : BelW w5, p.val.cell? ⟨G, 6, none⟩ = some (.slice g.pa c.procs.length g.pc) := fun p => (K0.out p.val (B5.out.trans (p.bel.mono B5.out.size))).1.2.2.2.2.2.2
    have y6 : ∀ p : BelW w5, p.val.cell? ⟨H, 6, none⟩ = some (.slice h.pa d.procs.length h.pc) := fun p => (K0.out p.val (B5.out.trans (p.bel.mono B5.out.size))).2.2.2.2.2.2.2
    have q1 : ∀ p : BelW w5, Calls Tryd.prog 14 #[.agg #[.slice g.la c.labels.length g.lc, .slice g.ta c.table.length g.tc, .int .i64 c.fuel, .int .i64 c.lane, .int .i64 c.locks, .int .i64 c.log, .slice g.pa c.procs.length g.pc], .agg #[.slice h.la d.labels.length h.lc, .slice h.ta d.table.length h.tc, .int .i64 d.fuel, .int .i64 d.lane, .int .i64 d.locks, .int .i64 d.log, .slice h.pa d.procs.length h.pc]] p.val fun e w'' => e = .returned (.bool (skB c d)) ∧ ∃ p' : BelW w5, w'' = p'.val := fun p => by
      have hh := skel_any c d g h p.val (HRk.out p.val (B5.out.trans (p.bel.mono B5.out.size))) (HSk.out p.val (B5.out.trans (p.bel.mono B5.out.size))) hlc.out
      exact hh.mono fun e w' ⟨he, hb⟩ => ⟨he, ⟨w', p.bel.trans (hb.mono p.bel.size)⟩, rfl⟩
    have q2 : ∀ p : BelW w5, Calls Tryd.prog 15 #[.agg #[.slice g.la c.labels.length g.lc, .slice g.ta c.table.length g.tc, .int .i64 c.fuel, .int .i64 c.lane, .int .i64 c.locks, .int .i64 c.log, .slice g.pa c.procs.length g.pc], .agg #[.slice h.la d.labels.length h.lc, .slice h.ta d.table.length h.tc, .int .i64 d.fuel, .int .i64 d.lane, .int .i64 d.locks, .int .i64 d.log, .slice h.pa d.procs.length h.pc]] p.val fun e w'' => e = .returned (.bool (skB c d)) ∧ ∃ p' : BelW w5, w'' = p'.val := fun p => by
      have hh := dskel_any c d g h p.val (HRk.out p.val (B5.out.trans (p.bel.mono B5.out.size))) (HSk.out p.val (B5.out.trans (p.bel.mono B5.out.size))) hlc.out
      exact hh.mono fun e w' ⟨he, hb⟩ => ⟨he, ⟨w', p.bel.trans (hb.mono p.bel.size)⟩, rfl⟩
    have q3 : ∀ p : BelW w5, Calls Tryd.prog 14 #[.agg #[.slice h.la d.labels.length h.lc, .slice h.ta d.table.length h.tc, .int .i64 d.fuel, .int .i64 d.lane, .int .i64 d.locks, .int .i64 d.log, .slice h.pa d.procs.length h.pc], .agg #[.slice g.la c.labels.length g.lc, .slice g.ta c.table.length g.tc, .int .i64 c.fuel, .int .i64 c.lane, .int .i64 c.locks, .int .i64 c.log, .slice g.pa c.procs.length g.pc]] p.val fun e w'' => e = .returned (.bool (skB c d)) ∧ ∃ p' : BelW w5, w'' = p'.val := fun p => by
      have hh := skel_any d c h g p.val (HSk.out p.val (B5.out.trans (p.bel.mono B5.out.size))) (HRk.out p.val (B5.out.trans (p.bel.mono B5.out.size))) hld.out
      rw [← skB_symm c d] at hh
      exact hh.mono fun e w' ⟨he, hb⟩ => ⟨he, ⟨w', p.bel.trans (hb.mono p.bel.size)⟩, rfl⟩
    have q4 : ∀ p : BelW w5, Calls Tryd.prog 14 #[.agg #[.slice g.la c.labels.length g.lc, .slice g.ta c.table.length g.tc, .int .i64 c.fuel, .int .i64 c.lane, .int .i64 c.locks, .int .i64 c.log, .slice g.pa c.procs.length g.pc], .agg #[.slice g.la c.labels.length g.lc, .slice g.ta c.table.length g.tc, .int .i64 c.fuel, .int .i64 c.lane, .int .i64 c.locks, .int .i64 c.log, .slice g.pa c.procs.length g.pc]] p.val fun e w'' => e = .returned (.bool true) ∧ ∃ p' : BelW w5, w'' = p'.val := fun p => by
      have hh := skel_any c c g g p.val (HRk.out p.val (B5.out.trans (p.bel.mono B5.out.size))) (HRk.out p.val (B5.out.trans (p.bel.mono B5.out.size))) hlc.out
      rw [skB_refl c] at hh
      exact hh.mono fun e w' ⟨he, hb⟩ => ⟨he, ⟨w', p.bel.trans (hb.mono p.bel.size)⟩, rfl⟩
    have s1 : ∀ p : BelW w5, (convert 31 9 (.slice ea xs.length ec)).run Tryd.prog p.val = .ok (.string ⟨(toU xs).toArray⟩) p.val := fun p => string_rd (w := p.val) ((hrow.out.rd.below b5.out).below p.bel) hbE.out (row_zero hrow.out)
    have s2 : ∀ p : BelW w5, (convert 31 9 (.slice fa xs.length fc)).run Tryd.prog p.val = .ok (.string ⟨(toU xs).toArray⟩) p.val := fun p => string_rd (w := p.val) (hrow2.out.rd.below p.bel) hbE.out (row_zero hrow2.out)
    have nek : Nonempty (BelW w5) := ⟨⟨w5, below_same w5⟩⟩
    generalize skB c d = b at *
    generalize toU xs = X at *
    clear HRk HSk K0 HFk HLk hlc hld
    refine wp_region_family (α := BelW w5) BelW.val (by kernel_rfl) (by kernel_rfl) ⟨w5.drew, below_draw w5 1⟩ rfl ?_
    repeat (go_big_quiet_step (first | with_reducible exact q1 _ | with_reducible exact q2 _ | with_reducible exact q3 _ | with_reducible exact q4 _))
    refine wpQuiet_nil ?_
    rintro w' ⟨p, rfl⟩
    go_wp2_with fail
    go_ret
    exact ⟨by simp, B0.out.trans ((B5.out.trans (p.bel.mono B5.out.size)).mono B0.out.size)⟩
  · have henc : Calls Tryd.prog 12 #[.agg #[.slice g.la c.labels.length g.lc, .slice g.ta c.table.length g.tc, .int .i64 c.fuel, .int .i64 c.lane, .int .i64 c.locks, .int .i64 c.log, .slice g.pa c.procs.length g.pc]] w3 fun e w' => e = .returned (.tuple #[.slice none 0 0, .int .i64 (mayC c).1]) ∧ Below w3.heap.size w3 w' := cenc_no c g w3 (HRk.out w3 B3.out) (HFk.out w3 B3.out) (HLk.out w3 B3.out) hm
    have HE2 : Hid (∀ W, Below w0.heap.size w0 W → Calls Tryd.prog 13 #[.agg #[.slice g.la c.labels.length g.lc, .slice g.ta c.table.length g.tc, .int .i64 c.fuel, .int .i64 c.lane, .int .i64 c.locks, .int .i64 c.log, .slice g.pa c.procs.length g.pc]] W fun e w' => e = .returned (.tuple #[.slice none 0 0, .int .i64 (mayC c).1]) ∧ Below W.heap.size W w') := hd (fun W hW => denc_no c g W (HRk.out W hW) hm)
    clear hm
    generalize mayC c = M at *
    obtain ⟨M1, M2⟩ := M
    simp only at henc HE2 ⊢
    obtain ⟨⟨c0, c1, c2, c3, c4, c5, c6⟩, -⟩ := K0.out w3 B3.out
    go_upto_region 6 with (go_at_call 12; refine henc.mono ?_; rintro e w4 ⟨rfl, b4⟩; replace b4 := hd b4)
    clear henc c0 c1 c2 c3 c4 c5 c6
    have B4 : Hid (Below w0.heap.size w0 w4) := hd (B3.out.trans (b4.out.mono B3.out.size))
    have henc := HE2.out w4 B4.out
    obtain ⟨⟨c0, c1, c2, c3, c4, c5, c6⟩, -⟩ := K0.out w4 B4.out
    go_upto_region 7 with (go_at_call 13; refine henc.mono ?_; rintro e w5 ⟨rfl, b5⟩; replace b5 := hd b5)
    clear henc HE2 c0 c1 c2 c3 c4 c5 c6
    have B5 : Hid (Below w0.heap.size w0 w5) := hd (B4.out.trans (b5.out.mono B4.out.size))
    have x0 : ∀ p : BelW w5, p.val.cell? ⟨G, 0, none⟩ = some (.slice g.la c.labels.length g.lc) := fun p => (K0.out p.val (B5.out.trans (p.bel.mono B5.out.size))).1.1
    have y0 : ∀ p : BelW w5, p.val.cell? ⟨H, 0, none⟩ = some (.slice h.la d.labels.length h.lc) := fun p => (K0.out p.val (B5.out.trans (p.bel.mono B5.out.size))).2.1
    have x1 : ∀ p : BelW w5, p.val.cell? ⟨G, 1, none⟩ = some (.slice g.ta c.table.length g.tc) := fun p => (K0.out p.val (B5.out.trans (p.bel.mono B5.out.size))).1.2.1
    have y1 : ∀ p : BelW w5, p.val.cell? ⟨H, 1, none⟩ = some (.slice h.ta d.table.length h.tc) := fun p => (K0.out p.val (B5.out.trans (p.bel.mono B5.out.size))).2.2.1
    have x2 : ∀ p : BelW w5, p.val.cell? ⟨G, 2, none⟩ = some (.int .i64 c.fuel) := fun p => (K0.out p.val (B5.out.trans (p.bel.mono B5.out.size))).1.2.2.1
    have y2 : ∀ p : BelW w5, p.val.cell? ⟨H, 2, none⟩ = some (.int .i64 d.fuel) := fun p => (K0.out p.val (B5.out.trans (p.bel.mono B5.out.size))).2.2.2.1
    have x3 : ∀ p : BelW w5, p.val.cell? ⟨G, 3, none⟩ = some (.int .i64 c.lane) := fun p => (K0.out p.val (B5.out.trans (p.bel.mono B5.out.size))).1.2.2.2.1
    have y3 : ∀ p : BelW w5, p.val.cell? ⟨H, 3, none⟩ = some (.int .i64 d.lane) := fun p => (K0.out p.val (B5.out.trans (p.bel.mono B5.out.size))).2.2.2.2.1
    have x4 : ∀ p : BelW w5, p.val.cell? ⟨G, 4, none⟩ = some (.int .i64 c.locks) := fun p => (K0.out p.val (B5.out.trans (p.bel.mono B5.out.size))).1.2.2.2.2.1
    have y4 : ∀ p : BelW w5, p.val.cell? ⟨H, 4, none⟩ = some (.int .i64 d.locks) := fun p => (K0.out p.val (B5.out.trans (p.bel.mono B5.out.size))).2.2.2.2.2.1
    have x5 : ∀ p : BelW w5, p.val.cell? ⟨G, 5, none⟩ = some (.int .i64 c.log) := fun p => (K0.out p.val (B5.out.trans (p.bel.mono B5.out.size))).1.2.2.2.2.2.1
    have y5 : ∀ p : BelW w5, p.val.cell? ⟨H, 5, none⟩ = some (.int .i64 d.log) := fun p => (K0.out p.val (B5.out.trans (p.bel.mono B5.out.size))).2.2.2.2.2.2.1
    have x6 : ∀ p : BelW w5, p.val.cell? ⟨G, 6, none⟩ = some (.slice g.pa c.procs.length g.pc) := fun p => (K0.out p.val (B5.out.trans (p.bel.mono B5.out.size))).1.2.2.2.2.2.2
    have y6 : ∀ p : BelW w5, p.val.cell? ⟨H, 6, none⟩ = some (.slice h.pa d.procs.length h.pc) := fun p => (K0.out p.val (B5.out.trans (p.bel.mono B5.out.size))).2.2.2.2.2.2.2
    have q1 : ∀ p : BelW w5, Calls Tryd.prog 14 #[.agg #[.slice g.la c.labels.length g.lc, .slice g.ta c.table.length g.tc, .int .i64 c.fuel, .int .i64 c.lane, .int .i64 c.locks, .int .i64 c.log, .slice g.pa c.procs.length g.pc], .agg #[.slice h.la d.labels.length h.lc, .slice h.ta d.table.length h.tc, .int .i64 d.fuel, .int .i64 d.lane, .int .i64 d.locks, .int .i64 d.log, .slice h.pa d.procs.length h.pc]] p.val fun e w'' => e = .returned (.bool (skB c d)) ∧ ∃ p' : BelW w5, w'' = p'.val := fun p => by
      have hh := skel_any c d g h p.val (HRk.out p.val (B5.out.trans (p.bel.mono B5.out.size))) (HSk.out p.val (B5.out.trans (p.bel.mono B5.out.size))) hlc.out
      exact hh.mono fun e w' ⟨he, hb⟩ => ⟨he, ⟨w', p.bel.trans (hb.mono p.bel.size)⟩, rfl⟩
    have q2 : ∀ p : BelW w5, Calls Tryd.prog 15 #[.agg #[.slice g.la c.labels.length g.lc, .slice g.ta c.table.length g.tc, .int .i64 c.fuel, .int .i64 c.lane, .int .i64 c.locks, .int .i64 c.log, .slice g.pa c.procs.length g.pc], .agg #[.slice h.la d.labels.length h.lc, .slice h.ta d.table.length h.tc, .int .i64 d.fuel, .int .i64 d.lane, .int .i64 d.locks, .int .i64 d.log, .slice h.pa d.procs.length h.pc]] p.val fun e w'' => e = .returned (.bool (skB c d)) ∧ ∃ p' : BelW w5, w'' = p'.val := fun p => by
      have hh := dskel_any c d g h p.val (HRk.out p.val (B5.out.trans (p.bel.mono B5.out.size))) (HSk.out p.val (B5.out.trans (p.bel.mono B5.out.size))) hlc.out
      exact hh.mono fun e w' ⟨he, hb⟩ => ⟨he, ⟨w', p.bel.trans (hb.mono p.bel.size)⟩, rfl⟩
    have q3 : ∀ p : BelW w5, Calls Tryd.prog 14 #[.agg #[.slice h.la d.labels.length h.lc, .slice h.ta d.table.length h.tc, .int .i64 d.fuel, .int .i64 d.lane, .int .i64 d.locks, .int .i64 d.log, .slice h.pa d.procs.length h.pc], .agg #[.slice g.la c.labels.length g.lc, .slice g.ta c.table.length g.tc, .int .i64 c.fuel, .int .i64 c.lane, .int .i64 c.locks, .int .i64 c.log, .slice g.pa c.procs.length g.pc]] p.val fun e w'' => e = .returned (.bool (skB c d)) ∧ ∃ p' : BelW w5, w'' = p'.val := fun p => by
      have hh := skel_any d c h g p.val (HSk.out p.val (B5.out.trans (p.bel.mono B5.out.size))) (HRk.out p.val (B5.out.trans (p.bel.mono B5.out.size))) hld.out
      rw [← skB_symm c d] at hh
      exact hh.mono fun e w' ⟨he, hb⟩ => ⟨he, ⟨w', p.bel.trans (hb.mono p.bel.size)⟩, rfl⟩
    have q4 : ∀ p : BelW w5, Calls Tryd.prog 14 #[.agg #[.slice g.la c.labels.length g.lc, .slice g.ta c.table.length g.tc, .int .i64 c.fuel, .int .i64 c.lane, .int .i64 c.locks, .int .i64 c.log, .slice g.pa c.procs.length g.pc], .agg #[.slice g.la c.labels.length g.lc, .slice g.ta c.table.length g.tc, .int .i64 c.fuel, .int .i64 c.lane, .int .i64 c.locks, .int .i64 c.log, .slice g.pa c.procs.length g.pc]] p.val fun e w'' => e = .returned (.bool true) ∧ ∃ p' : BelW w5, w'' = p'.val := fun p => by
      have hh := skel_any c c g g p.val (HRk.out p.val (B5.out.trans (p.bel.mono B5.out.size))) (HRk.out p.val (B5.out.trans (p.bel.mono B5.out.size))) hlc.out
      rw [skB_refl c] at hh
      exact hh.mono fun e w' ⟨he, hb⟩ => ⟨he, ⟨w', p.bel.trans (hb.mono p.bel.size)⟩, rfl⟩
    have s1 : ∀ p : BelW w5, (convert 31 9 (.slice none 0 0)).run Tryd.prog p.val = .ok (.string ⟨(toU []).toArray⟩) p.val := fun p => string_rd (w := p.val) (a := none) (cap := 0) (bs := []) (fun j u hj => by simp [bCells] at hj) (fun i => by simp) (fun _ => rfl)
    have nek : Nonempty (BelW w5) := ⟨⟨w5, below_same w5⟩⟩
    generalize skB c d = b at *
    generalize toU ([] : List Nat) = X at *
    clear HRk HSk K0 HFk HLk hlc hld
    refine wp_region_family (α := BelW w5) BelW.val (by kernel_rfl) (by kernel_rfl) ⟨w5.drew, below_draw w5 1⟩ rfl ?_
    repeat (go_big_quiet_step (first | with_reducible exact q1 _ | with_reducible exact q2 _ | with_reducible exact q3 _ | with_reducible exact q4 _))
    refine wpQuiet_nil ?_
    rintro w' ⟨p, rfl⟩
    go_wp2_with fail
    go_ret
    exact ⟨by simp, B0.out.trans ((B5.out.trans (p.bel.mono B5.out.size)).mono B0.out.size)⟩
end Go.Proofs.YtmjokinagbpihaaDoor
