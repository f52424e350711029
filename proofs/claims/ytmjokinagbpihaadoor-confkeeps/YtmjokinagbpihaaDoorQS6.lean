/- The document's Same of two that are the same. -/
import Derived.Test.YtmjokinagbpihaaDoorGCd
import Derived.Test.YtmjokinagbpihaaDoorQS5
namespace Go.Proofs.YtmjokinagbpihaaDoor
open Go.RowKit

theorem skB_self (c : Cfg) : skB c c = true := by simp [skB, nmE]

set_option maxRecDepth 100000 in
set_option maxHeartbeats 4000000 in
theorem dsame_yes (c : Cfg) (g h : Loc) (w : World) (hR : CfR w c g) (hS : CfR w c h) (hl : c.labels.length ≤ 9223372036854775807 ∧ c.table.length ≤ 9223372036854775807 ∧ c.procs.length ≤ 9223372036854775807) (hc : ∀ p ∈ c.procs, p.code.length ≤ 2000000) :
    Calls Tryd.prog 18 #[cfV c g, cfV c h] w fun e w' => e = .returned (.bool true) ∧ Below w.heap.size w w' := by
  unfold cfV cfA
  obtain ⟨w1, hw1⟩ : ∃ W, Hid ((w.alloc (.cells #[.slice g.la c.labels.length g.lc, .slice g.ta c.table.length g.tc, .int .i64 c.fuel, .int .i64 c.lane, .int .i64 c.locks, .int .i64 c.log, .slice g.pa c.procs.length g.pc] 27)).alloc (.cells #[.slice h.la c.labels.length h.lc, .slice h.ta c.table.length h.tc, .int .i64 c.fuel, .int .i64 c.lane, .int .i64 c.locks, .int .i64 c.log, .slice h.pa c.procs.length h.pc] 27) = W) := ⟨_, rfl⟩
  have B1 : Hid (Below w.heap.size w w1) := hd (by rw [← hw1.out]; exact ((Below.refl _ w).alloc (Nat.le_refl _) _).alloc (by simp) _)
  obtain ⟨G, hG⟩ : ∃ G, Hid (w.heap.size = G) := ⟨_, rfl⟩
  have HG : Hid (w1.heap[G]? = some (.cells #[.slice g.la c.labels.length g.lc, .slice g.ta c.table.length g.tc, .int .i64 c.fuel, .int .i64 c.lane, .int .i64 c.locks, .int .i64 c.log, .slice g.pa c.procs.length g.pc] 27 (0, 0))) := hd (by rw [← hw1.out, ← hG.out, (below_al _ _).block _ (by simp)]; exact heap_alloc_new w _)
  have HH : Hid (w1.heap[G + 1]? = some (.cells #[.slice h.la c.labels.length h.lc, .slice h.ta c.table.length h.tc, .int .i64 c.fuel, .int .i64 c.lane, .int .i64 c.locks, .int .i64 c.log, .slice h.pa c.procs.length h.pc] 27 (0, 0))) := hd (by
    rw [← hw1.out, ← hG.out, show w.heap.size + 1 = (w.alloc (.cells #[.slice g.la c.labels.length g.lc, .slice g.ta c.table.length g.tc, .int .i64 c.fuel, .int .i64 c.lane, .int .i64 c.locks, .int .i64 c.log, .slice g.pa c.procs.length g.pc] 27)).heap.size by simp]
    exact heap_alloc_new _ _)
  have HX : Hid (∀ W, Below w1.heap.size w1 W → W.cell? ⟨G, 0, none⟩ = some (.slice g.la c.labels.length g.lc) ∧ W.cell? ⟨G, 1, none⟩ = some (.slice g.ta c.table.length g.tc) ∧ W.cell? ⟨G, 2, none⟩ = some (.int .i64 c.fuel) ∧ W.cell? ⟨G, 3, none⟩ = some (.int .i64 c.lane) ∧ W.cell? ⟨G, 4, none⟩ = some (.int .i64 c.locks) ∧ W.cell? ⟨G, 5, none⟩ = some (.int .i64 c.log) ∧ W.cell? ⟨G, 6, none⟩ = some (.slice g.pa c.procs.length g.pc)) := hd (fun W hW => by
    have h : W.heap[G]? = _ := (hW.block G (Array.getElem?_eq_some_iff.1 HG.out).1).trans HG.out
    exact ⟨cell_of_row W G 0 _ _ _ h, cell_of_row W G 1 _ _ _ h, cell_of_row W G 2 _ _ _ h, cell_of_row W G 3 _ _ _ h, cell_of_row W G 4 _ _ _ h, cell_of_row W G 5 _ _ _ h, cell_of_row W G 6 _ _ _ h⟩)
  have HY : Hid (∀ W, Below w1.heap.size w1 W → W.cell? ⟨G + 1, 0, none⟩ = some (.slice h.la c.labels.length h.lc) ∧ W.cell? ⟨G + 1, 1, none⟩ = some (.slice h.ta c.table.length h.tc) ∧ W.cell? ⟨G + 1, 2, none⟩ = some (.int .i64 c.fuel) ∧ W.cell? ⟨G + 1, 3, none⟩ = some (.int .i64 c.lane) ∧ W.cell? ⟨G + 1, 4, none⟩ = some (.int .i64 c.locks) ∧ W.cell? ⟨G + 1, 5, none⟩ = some (.int .i64 c.log) ∧ W.cell? ⟨G + 1, 6, none⟩ = some (.slice h.pa c.procs.length h.pc)) := hd (fun W hW => by
    have h : W.heap[G + 1]? = _ := (hW.block (G + 1) (Array.getElem?_eq_some_iff.1 HH.out).1).trans HH.out
    exact ⟨cell_of_row W (G + 1) 0 _ _ _ h, cell_of_row W (G + 1) 1 _ _ _ h, cell_of_row W (G + 1) 2 _ _ _ h, cell_of_row W (G + 1) 3 _ _ _ h, cell_of_row W (G + 1) 4 _ _ _ h, cell_of_row W (G + 1) 5 _ _ _ h, cell_of_row W (G + 1) 6 _ _ _ h⟩)
  have hsk := dskel_any c c g h w1 (hR.below B1.out) (hS.below B1.out) hl
  rw [skB_self] at hsk
  unfold cfV cfA at hsk
  have HP : Hid (∀ i, i < c.procs.length → ∃ b o b' o', g.pa = some ⟨b, o, none⟩ ∧ h.pa = some ⟨b', o', none⟩ ∧ ∃ ma mc na nc l, (∀ W, Below w1.heap.size w1 W → W.cell? ⟨b, o + i * 2 + 1, none⟩ = some (.slice ma (List.length l) mc) ∧ W.cell? ⟨b', o' + i * 2 + 1, none⟩ = some (.slice na (List.length l) nc) ∧ Calls Tryd.prog 24 #[.slice ma (List.length l) mc, .slice na (List.length l) nc] W fun e w' => e = .returned (.bool true) ∧ ∃ n, w' = W.drewN n)) := hd (fun i hi => by
    have hg := hR.len
    have hh := hS.len
    obtain ⟨b, o, e1, x0⟩ := (hR.prs.below B1.out) _ _ (psC_at g.ms i (by omega)).2
    obtain ⟨b', o', e2, x1⟩ := (hS.prs.below B1.out) _ _ (psC_at h.ms i (by omega)).2
    have m1 : g.ms.getD i default ∈ g.ms := by rw [List.getD_eq_getElem?_getD, List.getElem?_eq_getElem (show i < g.ms.length by omega)]; exact List.getElem_mem _
    have m2 : h.ms.getD i default ∈ h.ms := by rw [List.getD_eq_getElem?_getD, List.getElem?_eq_getElem (show i < h.ms.length by omega)]; exact List.getElem_mem _
    have r1 := hR.cod _ m1
    have r2 := hS.cod _ m2
    rw [hR.at i] at x0 r1
    rw [hS.at i] at x1 r2
    have hcl := hc (c.procs.getD i default) (by rw [List.getD_eq_getElem?_getD, List.getElem?_eq_getElem hi]; exact List.getElem_mem _)
    refine ⟨b, o, b', o', e1, e2, (g.ms.getD i default).a, (g.ms.getD i default).c, (h.ms.getD i default).a, (h.ms.getD i default).c, (c.procs.getD i default).code, fun W hW => ⟨?_, ?_, same_yes _ _ _ _ _ W hcl (prg_of_rd ((r1.below B1.out).below hW)) (prg_of_rd ((r2.below B1.out).below hW))⟩⟩
    · rw [Nat.add_assoc]
      exact (hW.cell (p := ⟨b, o + (i * 2 + 1), none⟩) (World.block_lt_of_cell? w1 _ x0)).trans x0
    · rw [Nat.add_assoc]
      exact (hW.cell (p := ⟨b', o' + (i * 2 + 1), none⟩) (World.block_lt_of_cell? w1 _ x1)).trans x1)
  obtain ⟨X0, X1, X2, X3, X4, X5, X6⟩ := HX.out w1 (below_same w1)
  obtain ⟨Y0, Y1, Y2, Y3, Y4, Y5, Y6⟩ := HY.out w1 (below_same w1)
  have hl3 := hl.2.2
  clear hR hS hl HG HH hc
  go_enter Tryd.func18, Tryd.ntmps18
  go_upto_region 1 with fail
  rw [hw1.out, hG.out]
  go_upto_block 0 with (go_at_call 15; refine hsk.mono ?_; rintro e w2 ⟨rfl, B2⟩; replace B2 := hd B2)
  clear X0 X1 X2 X3 X4 X5 X6 Y0 Y1 Y2 Y3 Y4 Y5 Y6 hsk
  go_wp2_with fail
  go_loopg [5, 6, 10, 11, 12, 13, 14, 15, 16, 17, 18, 19, 20, 21, 22, 23, 24, 25, 26, 27, 28, 29, 30, 31, 32] c.procs.length (fun gg v5 v6 v10 v11 v12 v13 v14 v15 v16 v17 v18 v19 v20 v21 v22 v23 v24 v25 v26 v27 v28 v29 v30 v31 v32 wr => ∃ (i : Nat), i + gg = c.procs.length ∧ v6 = .int .i64 (i : Int) ∧ v5 = .bool true ∧ Hid (Below w1.heap.size w1 wr))
  case atStart => exact ⟨0, by omega, by go_num, rfl, B2⟩
  case round =>
    clear B2
    obtain ⟨i, hi, rfl, rfl, B2⟩ := hrel
    obtain ⟨-, -, -, -, -, -, X6⟩ := HX.out wr B2.out
    obtain ⟨-, -, -, -, -, -, Y6⟩ := HY.out wr B2.out
    by_cases h0 : gk = 0
    · subst h0
      have hge : decide ((i : Int) < (c.procs.length : Int)) = false := by simp; omega
      have hge' : (c.procs.length : Int) ≤ (i : Int) := by omega
      go_wp2_with fail
      go_ret
      exact ⟨rfl, B1.out.trans (B2.out.mono B1.out.size)⟩
    · have hlt : (i : Int) < (c.procs.length : Int) := by omega
      obtain ⟨bx, ox, bz, oz, e1, e2, ma, mc, na, nc, l, hcell⟩ := HP.out i (by omega)
      have x6 : ∀ p : BelW wr, p.val.cell? ⟨G, 6, none⟩ = some (.slice (some ⟨bx, ox, none⟩) c.procs.length g.pc) := fun p => by
        obtain ⟨-, -, -, -, -, -, h6⟩ := HX.out p.val (B2.out.trans (p.bel.mono B2.out.size))
        rw [← e1]; exact h6
      have y6 : ∀ p : BelW wr, p.val.cell? ⟨G + 1, 6, none⟩ = some (.slice (some ⟨bz, oz, none⟩) c.procs.length h.pc) := fun p => by
        obtain ⟨-, -, -, -, -, -, h6⟩ := HY.out p.val (B2.out.trans (p.bel.mono B2.out.size))
        rw [← e2]; exact h6
      have z1 : ∀ p : BelW wr, p.val.cell? ⟨bx, ox + i * 2 + 1, none⟩ = some (.slice ma l.length mc) := fun p => (hcell p.val (B2.out.trans (p.bel.mono B2.out.size))).1
      have z2 : ∀ p : BelW wr, p.val.cell? ⟨bz, oz + i * 2 + 1, none⟩ = some (.slice na l.length nc) := fun p => (hcell p.val (B2.out.trans (p.bel.mono B2.out.size))).2.1
      have q1 : ∀ p : BelW wr, Calls Tryd.prog 24 #[.slice ma l.length mc, .slice na l.length nc] p.val fun e w'' => e = .returned (.bool true) ∧ ∃ p' : BelW wr, w'' = p'.val := fun p =>
        (hcell p.val (B2.out.trans (p.bel.mono B2.out.size))).2.2.mono fun e w' ⟨he, n, hw⟩ => ⟨he, ⟨w', by rw [hw]; exact p.bel.trans ((below_draw p.val n).mono p.bel.size)⟩, rfl⟩
      have nek : Nonempty (BelW wr) := ⟨⟨wr, below_same wr⟩⟩
      replace e1 := hd e1
      replace e2 := hd e2
      clear hcell HP Y6
      go_upto_region 5 with fail
      refine wp_region_family (α := BelW wr) BelW.val (by kernel_rfl) (by kernel_rfl) ⟨wr.drew, below_draw wr 1⟩ rfl ?_
      repeat (go_big_quiet_step (first | with_reducible exact q1 _))
      refine wpQuiet_nil ?_
      rintro w' ⟨p, rfl⟩
      clear x6 y6 z1 z2 q1 nek
      have B3 : Hid (Below w1.heap.size w1 p.val) := hd (B2.out.trans (p.bel.mono B2.out.size))
      go_wp2_with fail
      go_roundg (gk - 1)
      case rel => exact ⟨i + 1, by omega, by go_num, rfl, B3⟩
      case measure => omega
end Go.Proofs.YtmjokinagbpihaaDoor
