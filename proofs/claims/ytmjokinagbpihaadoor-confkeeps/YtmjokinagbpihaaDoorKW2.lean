/- The law's wide. -/
import Derived.Test.YtmjokinagbpihaaDoorKW1
namespace Go.Proofs.YtmjokinagbpihaaDoor
open Go.RowKit

theorem mkI_one : ∀ u ∈ mkI, u.oneCell' = true := by decide
theorem mkP_one : ∀ u ∈ mkP, u.oneCell' = true := by decide
theorem pC_one (l : List Ins) : ∀ u ∈ pCells l, u.oneCell' = true := by
  intro u hu
  obtain ⟨x, _, hx⟩ := List.mem_flatMap.1 hu
  exact insCells_one x u hx
theorem setXA0 (c : Cfg) (g : Loc) (a : Option Addr) (k : Nat) : (cfA c g).setIfInBounds 0 (.slice a c.labels.length k) = cfA c { g with la := a, lc := k } := rfl
theorem setXA1 (c : Cfg) (g : Loc) (a : Option Addr) (k : Nat) : (cfA c g).setIfInBounds 1 (.slice a c.table.length k) = cfA c { g with ta := a, tc := k } := rfl
theorem setXA6 (c : Cfg) (g : Loc) (a : Option Addr) (k : Nat) (ms : List PrM) : (cfA c g).setIfInBounds 6 (.slice a c.procs.length k) = cfA c { g with pa := a, pc := k, ms := ms } := rfl
theorem XA (c : Cfg) (g : Loc) : (cfA c g)[0]? = some (.slice g.la c.labels.length g.lc) ∧ (cfA c g)[1]? = some (.slice g.ta c.table.length g.tc) ∧ (cfA c g)[6]? = some (.slice g.pa c.procs.length g.pc) := ⟨rfl, rfl, rfl⟩

set_option maxRecDepth 100000 in
set_option maxHeartbeats 8000000 in
theorem wide_any (c : Cfg) (g : Loc) (w : World) (hR : CfR w c g) (hl : c.labels.length ≤ 1048576 ∧ c.table.length ≤ 1048576 ∧ c.procs.length ≤ 1048576) (hc : ∀ p ∈ c.procs, p.code.length ≤ 1048576) :
    Calls Tryd.prog 19 #[cfV c g] w fun e w' => ∃ g', e = .returned (cfV c g') ∧ WdO w.heap.size w' c g' ∧ Below w.heap.size w w' := by
  unfold cfV cfA
  replace hR := hd hR
  replace hc := hd hc
  obtain ⟨hl0, hl1, hl2⟩ := hl
  obtain ⟨w1, hw1⟩ : ∃ W, Hid ((w.alloc (.cells #[.slice g.la c.labels.length g.lc, .slice g.ta c.table.length g.tc, .int .i64 c.fuel, .int .i64 c.lane, .int .i64 c.locks, .int .i64 c.log, .slice g.pa c.procs.length g.pc] 27)).alloc (.cells #[.slice none 0 0, .slice none 0 0, .int .i64 0, .int .i64 0, .int .i64 0, .int .i64 0, .slice none 0 0] 27) = W) := ⟨_, rfl⟩
  obtain ⟨G, hG⟩ : ∃ G, Hid (w.heap.size = G) := ⟨_, rfl⟩
  have H0 : Hid (WI w G w1 (cfA c g) []) := hd (by
    have hb : Below w.heap.size w w1 := by rw [← hw1.out]; exact ((Below.refl _ w).alloc (Nat.le_refl _) _).alloc (by simp) _
    refine ⟨?_, ?_, Owned.nil _ _, hb, hG.out, by rw [← hw1.out, ← hG.out]; simp⟩
    · rw [← hw1.out, ← hG.out, (below_al _ _).block _ (by simp)]
      exact heap_alloc_new w _
    · rw [← hw1.out, ← hG.out, show w.heap.size + 1 = (w.alloc (.cells #[.slice g.la c.labels.length g.lc, .slice g.ta c.table.length g.tc, .int .i64 c.fuel, .int .i64 c.lane, .int .i64 c.locks, .int .i64 c.log, .slice g.pa c.procs.length g.pc] 27)).heap.size by simp]
      exact heap_alloc_new _ _)
  go_enter Tryd.func19, Tryd.ntmps19
  go_upto_region 1 with fail
  rw [hw1.out, hG.out]
  clear hw1
  have kL := H0.out.cell 0
  simp [cfA] at kL
  have HRL := hd ((hR.out.lab.below H0.out.bel).below (below_draw w1 1))
  obtain ⟨uL, aL, qL, zL, RL⟩ := roomy (by decide) Tryd.underlying23 info_u64 rfl (by omega) w1.drew (c := g.lc) HRL.out (by rw [labC_len]) (labC_one _) (n := c.labels.length) (by omega)
  have mdL := RL.made
  rw [show (c.labels.length : Int) + 2 = IntKind.i64.wrap ((c.labels.length : Int) + 2) by rw [IntKind.wrap_i64]; omega] at mdL
  have apL := hd RL.ap
  have kL1 : w1.drew.cell? ⟨G, 0, none⟩ = some (.slice g.la c.labels.length g.lc) := kL
  have kL2 : uL.cell? ⟨G, 0, none⟩ = some (.slice g.la c.labels.length g.lc) := (RL.b1.cell (p := ⟨G, 0, none⟩) (World.block_lt_of_cell? _ _ kL1)).trans kL1
  go_upto_region 1 with fail
  go_cut [3] (fun v3 wy => v3 = .slice aL c.labels.length qL ∧ wy = zL)
  case first =>
    go_region_law (first | (refine step_append_run (by rfl) _ _ _ (by rfl) _ _ _ _ (by rfl) (by rfl) apL.out ?_; clear apL))
    all_goals go_wp2_with fail
    all_goals go_meet
    all_goals exact ⟨rfl, rfl⟩
  case rest =>
  obtain ⟨rfl, hwc⟩ := hcut
  obtain rfl : wc = zL := hwc
  obtain ⟨bL, rL, yL, hap, hrow, hmod, hnew⟩ := pushM Tryd.underlying23 info_u64 rfl (by omega) RL.row (by omega) mkL (m := 2) (by omega) rfl (by decide) (cs := #[.int .u64 161, .int .u64 162]) rfl
  have hcl := hrow.capLe
  have hcI : (c.labels.length : Int) ≤ (rL : Int) := by omega
  obtain ⟨eL, rfl⟩ := hrow.head (by omega)
  have hbw : Hid (Below w1.heap.size w1 wc) := hd ((below_draw w1 1).trans RL.b2)
  have Hx : Hid (WI w G yL (cfA c g) (dL c { g with la := some ⟨eL, 0, none⟩, lc := rL } :: [])) := hd (H0.out.plus (hbw.out.trans (hmod.below (B := w1.heap.size) hbw.out.size (fun k _ hk => RL.new k hk))) hrow (fun k hk => by
    rcases hnew k hk with h | h
    · exact RL.new k h
    · exact Nat.le_trans hbw.out.size h))
  have x1 := Hx.out.cell 0
  have x2 := Hx.out.free 0
  simp [cfA] at x1
  replace hap := hd hap
  clear hrow hmod hnew mdL kL kL1 kL2 hbw hcl
  go_upto_region 3 with (at_builtin; refine wpList_append_run rfl _ _ _ rfl _ _ _ _ rfl rfl hap.out ?_; clear hap)
  obtain ⟨w2, hw2⟩ : ∃ W, Hid (yL.setCell ⟨G, 0, none⟩ (.slice (some ⟨eL, 0, none⟩) c.labels.length rL) = W) := ⟨_, rfl⟩
  rw [hw2.out]
  have H2 : Hid (WI w G w2 (cfA c { g with la := some ⟨eL, 0, none⟩, lc := rL }) [dL c { g with la := some ⟨eL, 0, none⟩, lc := rL }]) := hd (by rw [← hw2.out, ← setXA0]; exact Hx.out.put 0 _)
  clear Hx x1 x2 hw2 RL HRL H0 hcI
  have kT := H2.out.cell 1
  simp [cfA] at kT
  have HRT := hd ((hR.out.tab.below H2.out.bel).below (below_draw w2 1))
  obtain ⟨uT, aT, qT, zT, RT⟩ := roomy (by decide) Tryd.underlying24 info_int rfl (by omega) w2.drew (c := g.tc) HRT.out (by rw [iC_len]) (iC_one _) (n := c.table.length) (by omega)
  have mdT := RT.made
  rw [show (c.table.length : Int) + 2 = IntKind.i64.wrap ((c.table.length : Int) + 2) by rw [IntKind.wrap_i64]; omega] at mdT
  have apT := hd RT.ap
  have kT1 : w2.drew.cell? ⟨G, 1, none⟩ = some (.slice g.ta c.table.length g.tc) := kT
  have kT2 : uT.cell? ⟨G, 1, none⟩ = some (.slice g.ta c.table.length g.tc) := (RT.b1.cell (p := ⟨G, 1, none⟩) (World.block_lt_of_cell? _ _ kT1)).trans kT1
  go_upto_region 3 with fail
  go_cut [4] (fun v4 wy => v4 = .slice aT c.table.length qT ∧ wy = zT)
  case first =>
    go_region_law (first | (refine step_append_run (by rfl) _ _ _ (by rfl) _ _ _ _ (by rfl) (by rfl) apT.out ?_; clear apT))
    all_goals go_wp2_with fail
    all_goals go_meet
    all_goals exact ⟨rfl, rfl⟩
  case rest =>
  obtain ⟨rfl, hwc⟩ := hcut
  obtain rfl : wc = zT := hwc
  obtain ⟨bT, rT, yT, hap, hrow, hmod, hnew⟩ := pushM Tryd.underlying24 info_int rfl (by omega) RT.row (by omega) mkT (m := 2) (by omega) rfl (by decide) (cs := #[.int .i64 161, .int .i64 162]) rfl
  have hcl := hrow.capLe
  have hcI : (c.table.length : Int) ≤ (rT : Int) := by omega
  obtain ⟨eT, rfl⟩ := hrow.head (by omega)
  have hbw : Hid (Below w2.heap.size w2 wc) := hd ((below_draw w2 1).trans RT.b2)
  have Hx : Hid (WI w G yT (cfA c { g with la := some ⟨eL, 0, none⟩, lc := rL }) (dT c { g with la := some ⟨eL, 0, none⟩, lc := rL, ta := some ⟨eT, 0, none⟩, tc := rT } :: [dL c { g with la := some ⟨eL, 0, none⟩, lc := rL }])) := hd (H2.out.plus (hbw.out.trans (hmod.below (B := w2.heap.size) hbw.out.size (fun k _ hk => RT.new k hk))) hrow (fun k hk => by
    rcases hnew k hk with h | h
    · exact RT.new k h
    · exact Nat.le_trans hbw.out.size h))
  have x1 := Hx.out.cell 1
  have x2 := Hx.out.free 1
  simp [cfA] at x1
  replace hap := hd hap
  clear hrow hmod hnew mdT kT kT1 kT2 hbw hcl
  go_upto_region 5 with (at_builtin; refine wpList_append_run rfl _ _ _ rfl _ _ _ _ rfl rfl hap.out ?_; clear hap)
  obtain ⟨w3, hw3⟩ : ∃ W, Hid (yT.setCell ⟨G, 1, none⟩ (.slice (some ⟨eT, 0, none⟩) c.table.length rT) = W) := ⟨_, rfl⟩
  rw [hw3.out]
  have H3 : Hid (WI w G w3 (cfA c { g with la := some ⟨eL, 0, none⟩, lc := rL, ta := some ⟨eT, 0, none⟩, tc := rT }) [dT c { g with la := some ⟨eL, 0, none⟩, lc := rL, ta := some ⟨eT, 0, none⟩, tc := rT }, dL c { g with la := some ⟨eL, 0, none⟩, lc := rL, ta := some ⟨eT, 0, none⟩, tc := rT }]) := hd (by
    have h1 := Hx.out.put 1 (.slice (some ⟨eT, 0, none⟩) c.table.length rT)
    rw [hw3.out] at h1
    exact h1)
  clear Hx x1 x2 hw3 RT HRT H2 hcI
  obtain ⟨GG, hGG⟩ : ∃ GG : Loc, GG = { g with la := some ⟨eL, 0, none⟩, lc := rL, ta := some ⟨eT, 0, none⟩, tc := rT } := ⟨_, rfl⟩
  have hgp : GG.pa = g.pa ∧ GG.pc = g.pc ∧ GG.la = some ⟨eL, 0, none⟩ ∧ GG.lc = rL ∧ GG.ta = some ⟨eT, 0, none⟩ ∧ GG.tc = rT := by rw [hGG]; exact ⟨rfl, rfl, rfl, rfl, rfl, rfl⟩
  rw [← hGG] at H3
  replace hgp := hd hgp
  clear hGG
  have k6 := H3.out.cell 6
  simp [cfA, hgp.out.1, hgp.out.2.1] at k6
  obtain ⟨w4, hmk, hb4, hr4⟩ := made2 (size := 2) Tryd.underlying25 info_proc (by omega) w3 (n := c.procs.length) (by omega)
  have H4 : Hid (WI w G w4 (cfA c GG) ((⟨42, 2, (some ⟨w3.heap.size, 0, none⟩), 0, (c.procs.length + 2), []⟩ :: dL c GG :: dT c GG :: []))) := hd ((H3.out.plus (d := ⟨42, 2, some ⟨w3.heap.size, 0, none⟩, 0, c.procs.length + 2, []⟩) hb4 hr4 (fun k hk => Nat.le_of_eq (Option.some.inj hk))).perm (List.Perm.cons _ (List.Perm.swap _ _ [])))
  have k6' := H4.out.cell 6
  simp [cfA, hgp.out.1, hgp.out.2.1] at k6'
  go_upto_block 0 with fail
  clear hmk hb4 hr4 k6 k6' H3
  generalize (some (⟨w3.heap.size, 0, none⟩ : Addr)) = pa0 at H4 ⊢
  go_cut [5, 7, 8, 48] (fun v5 v7 v8 v48 wy => ∃ (pa : Option Addr) (pc : Nat), v5 = .slice pa c.procs.length pc ∧ Hid (∃ ms, psOf ms = c.procs ∧ WI w G wy (cfA c GG) (⟨42, 2, pa, c.procs.length, pc, psC ms⟩ :: dL c GG :: dT c GG :: ms.map wdP)))
  case first =>
    go_wp2_with fail
    go_loopg [5, 7, 8, 48, 49, 50, 51, 52, 53, 54, 55, 56, 57, 58, 59, 60, 61, 62, 63, 64, 65, 66, 67, 68, 69, 70, 71, 72, 73, 74] c.procs.length (fun gg v5 v7 v8 v48 v49 v50 v51 v52 v53 v54 v55 v56 v57 v58 v59 v60 v61 v62 v63 v64 v65 v66 v67 v68 v69 v70 v71 v72 v73 v74 wr => ∃ (len : Nat) (pa : Option Addr) (pc : Nat), v48 = .int .i64 (len : Int) ∧ v5 = .slice pa len pc ∧ len + gg = c.procs.length ∧ Hid (∃ ms, psOf ms = c.procs.take len ∧ WI w G wr (cfA c GG) (⟨42, 2, pa, len, pc, psC ms⟩ :: dL c GG :: dT c GG :: ms.map wdP)))
    case atStart => exact ⟨0, pa0, c.procs.length + 2, by go_num, rfl, by omega, hd ⟨[], rfl, H4.out⟩⟩
    case round =>
      clear H4
      obtain ⟨len, pa, pc, rfl, rfl, hlen, HW⟩ := hrel
      by_cases h0 : gk = 0
      · subst h0
        obtain rfl : len = c.procs.length := by omega
        have hge : decide ((c.procs.length : Int) < (c.procs.length : Int)) = false := by simp
        go_wp2_with fail
        go_meet
        obtain ⟨ms, h1, h2⟩ := HW.out
        rw [List.take_length] at h1
        exact ⟨pa, pc, rfl, hd ⟨ms, h1, h2⟩⟩
      · have hlt : (len : Int) < (c.procs.length : Int) := by omega
        obtain ⟨ms, hps, hW⟩ := HW.out
        replace hW := hd hW
        replace hps := hd hps
        clear HW
        have HRr := hd (hR.out.below hW.out.bel)
        have hims : len < g.ms.length := by rw [HRr.out.len]; omega
        obtain ⟨bp, op, epa, x0⟩ := HRr.out.prs _ _ (psC_at g.ms len hims).1
        obtain ⟨b', o', epa', x1⟩ := HRr.out.prs _ _ (psC_at g.ms len hims).2
        rw [epa] at epa'
        cases epa'
        have hx1 : op + (len * 2 + 1) = op + len * 2 + 1 := by omega
        rw [hx1] at x1
        have HRc := hd (HRr.out.cod (g.ms.getD len default) (by rw [List.getD_eq_getElem?_getD, List.getElem?_eq_getElem hims]; exact List.getElem_mem _))
        have HAt := hd (HRr.out.at len)
        have hcl : (g.ms.getD len default).p.code.length ≤ 1048576 := by
          rw [HAt.out]
          exact hc.out _ (by rw [List.getD_eq_getElem?_getD, List.getElem?_eq_getElem (show len < c.procs.length by omega)]; exact List.getElem_mem _)
        have HTK : Hid (∀ m : PrM, m.p = (g.ms.getD len default).p → psOf (ms ++ [m]) = c.procs.take (len + 1)) := hd (fun m hm => by
          rw [psOf_snoc, hps.out, hm, HAt.out, List.take_add_one, List.getD_eq_getElem?_getD, List.getElem?_eq_getElem (show len < c.procs.length by omega)]
          rfl)
        clear HRr HAt
        generalize g.ms.getD len default = m at *
        obtain ⟨⟨part, code⟩, ma, mc⟩ := m
        simp only at x0 x1 HRc hcl HTK
        rw [epa]
        go_upto_region 9 with fail
        obtain ⟨wa, hwa⟩ : ∃ W, Hid (wr.alloc (.cells #[.int .i64 part, .slice ma code.length mc] 42) = W) := ⟨_, rfl⟩
        rw [hwa.out]
        have ba : Hid (Below wr.heap.size wr wa) := hd (by rw [← hwa.out]; exact below_al wr _)
        have HBx : Hid (wa.heap[wr.heap.size]? = some (.cells #[.int .i64 part, .slice ma code.length mc] 42 (0, 0))) := hd (by rw [← hwa.out]; exact heap_alloc_new wr _)
        obtain ⟨Bp, hBp⟩ : ∃ B, Hid (wr.heap.size = B) := ⟨_, rfl⟩
        rw [hBp.out] at HBx ⊢
        clear hwa x0 x1
        have HKb : Hid (∀ V, Below wa.heap.size wa V → V.cell? ⟨Bp, 0, none⟩ = some (.int .i64 part) ∧ V.cell? ⟨Bp, 1, none⟩ = some (.slice ma code.length mc)) := hd (fun V hV => by
          have h1 := (hV.block Bp (Array.getElem?_eq_some_iff.1 HBx.out).1).trans HBx.out
          exact ⟨cell_of_row V Bp 0 _ _ _ h1, cell_of_row V Bp 1 _ _ _ h1⟩)
        have bd := hd (below_draw wa 1)
        obtain ⟨u9, a9, q9, z9, R9⟩ := roomy (by decide) Tryd.underlying39 info_insn rfl (by omega) wa.drew (c := mc) ((HRc.out.below ba.out).below bd.out) (pC_len code) (pC_one code) (n := code.length) (by omega)
        have md9 := R9.made
        rw [show (code.length : Int) + 2 = IntKind.i64.wrap ((code.length : Int) + 2) by rw [IntKind.wrap_i64]; omega] at md9
        have ap9 := hd R9.ap
        obtain ⟨-, k1⟩ := HKb.out wa.drew bd.out
        obtain ⟨-, k2⟩ := HKb.out u9 (bd.out.trans R9.b1)
        go_cut [8] (fun v8 wy => v8 = .slice a9 code.length q9 ∧ wy = z9)
        case first =>
          go_region_law (first | (refine step_append_run (by rfl) _ _ _ (by rfl) _ _ _ _ (by rfl) (by rfl) ap9.out ?_; clear ap9))
          all_goals go_wp2_with fail
          all_goals go_meet
          all_goals exact ⟨rfl, rfl⟩
        case rest =>
        obtain ⟨rfl, hwc⟩ := hcut
        obtain rfl : wc = z9 := hwc
        clear k1 k2 md9 ap9
        have bc : Hid (Below wa.heap.size wa wc) := hd (bd.out.trans R9.b2)
        have bcd := hd (below_draw wc 1)
        obtain ⟨aA, qA, zA, hapA, hrow, hmod, hnew⟩ := pushM Tryd.underlying39 info_insn rfl (by omega) (R9.row.below bcd.out) (by omega) mkI (m := 2) (by omega) rfl mkI_one (cs := #[.int .i64 77, .int .i64 0, .int .i64 0, .int .i64 0, .int .i64 0, .int .i64 78, .int .i64 0, .int .i64 0, .int .i64 0, .int .i64 0]) rfl
        have hcap := hrow.capLe
        have hcI : (code.length : Int) ≤ (qA : Int) := by omega
        obtain ⟨eA, rfl⟩ := hrow.head (by omega)
        have hb1 : Hid (Below wa.heap.size wa wc.drew) := hd (bc.out.trans (bcd.out.mono bc.out.size))
        have hbA : Hid (Below wa.heap.size wa zA) := hd (hb1.out.trans (hmod.below (B := wa.heap.size) hb1.out.size (fun k _ hk => R9.new k hk)))
        have hW2 : Hid (WI w G zA (cfA c GG) (wdP ⟨⟨part, code⟩, some ⟨eA, 0, none⟩, qA⟩ :: (⟨42, 2, pa, len, pc, psC ms⟩ :: dL c GG :: dT c GG :: ms.map wdP))) := hd (hW.out.plus (ba.out.trans (hbA.out.mono ba.out.size)) hrow (fun k hk => by
          have hs := ba.out.size
          rcases hnew k hk with h | h
          · exact Nat.le_trans hs (R9.new k h)
          · exact Nat.le_trans hs (Nat.le_trans hb1.out.size h)))
        have hW3 : Hid (WI w G zA (cfA c GG) (⟨42, 2, pa, len, pc, psC ms⟩ :: dL c GG :: dT c GG :: (ms ++ [(⟨⟨part, code⟩, some ⟨eA, 0, none⟩, qA⟩ : PrM)]).map wdP)) := hd (by
          have h1 := hW2.out.perm (List.perm_append_comm (l₁ := [_]))
          simpa using h1)
        obtain ⟨pB, cB, zB, hapB, hrowB, hmodB, hnewB⟩ := push_any Tryd.underlying25 info_proc rfl (by omega) hW3.out.own.head (by simp only; omega) [.int .i64 part, .slice (some ⟨eA, 0, none⟩) code.length qA] rfl (prC_one (⟨⟨part, code⟩, some ⟨eA, 0, none⟩, qA⟩ : PrM))
        have HN : Hid (∃ ms', psOf ms' = c.procs.take (len + 1) ∧ WI w G zB (cfA c GG) (⟨42, 2, pB, len + 1, cB, psC ms'⟩ :: dL c GG :: dT c GG :: ms'.map wdP)) := hd ⟨ms ++ [(⟨⟨part, code⟩, some ⟨eA, 0, none⟩, qA⟩ : PrM)], HTK.out _ rfl, by
          have h1 := hW3.out.turn (d' := ⟨42, 2, pB, len + 1, cB, psC ms ++ prC (⟨⟨part, code⟩, some ⟨eA, 0, none⟩, qA⟩ : PrM)⟩) hmodB hrowB hnewB
          rw [psC_snoc]
          exact h1⟩
        replace hapA : Hid (∀ ty, (Builtin.append_ #[39, 39] ty #[.slice a9 code.length q9, .slice (some ⟨wc.heap.size, 0, none⟩) 2 2]).run Tryd.prog (wc.drew.alloc (.cells #[.int .i64 77, .int .i64 0, .int .i64 0, .int .i64 0, .int .i64 0, .int .i64 78, .int .i64 0, .int .i64 0, .int .i64 0, .int .i64 0] 71)) = .ok (.slice (some ⟨eA, 0, none⟩) (code.length + 2) qA) zA) := hd hapA
        replace hapB := hd hapB
        obtain ⟨k1, -⟩ := HKb.out wc.drew hb1.out
        have k2 : (wc.drew.alloc (.cells #[.int .i64 77, .int .i64 0, .int .i64 0, .int .i64 0, .int .i64 0, .int .i64 78, .int .i64 0, .int .i64 0, .int .i64 0, .int .i64 0] 71)).cell? ⟨Bp, 0, none⟩ = some (.int .i64 part) := ((below_al wc.drew _).cell (World.block_lt_of_cell? _ _ k1)).trans k1
        have k3 : (wc.alloc (.cells #[.int .i64 77, .int .i64 0, .int .i64 0, .int .i64 0, .int .i64 0, .int .i64 78, .int .i64 0, .int .i64 0, .int .i64 0, .int .i64 0] 71)).drew.cell? ⟨Bp, 0, none⟩ = some (.int .i64 part) := k2
        obtain ⟨k4, -⟩ := HKb.out zA hbA.out
        clear hrow hmod hnew hrowB hmodB hnewB hW hW2 hW3 R9 HRc HBx HKb bc bcd hb1 hbA bd ba hBp HTK hps hcap hcl
        go_upto_region 10 with fail
        go_wp2_with fail
        go_region_law
          (first
            | (refine step_append_run (by rfl) _ _ _ (by rfl) _ _ _ _ (by rfl) (by rfl) hapA.out ?_; clear hapA)
            | (refine step_append_run (by rfl) _ _ _ (by rfl) _ _ _ _ (by rfl) (by rfl) hapB.out ?_; clear hapB))
        all_goals go_wp2_with fail
        all_goals rw [← epa]
        all_goals go_roundg (gk - 1)
        all_goals first | omega | exact ⟨len + 1, pB, cB, by go_num, rfl, by omega, HN⟩
  case rest =>
  clear H4
  obtain ⟨pa, pc, rfl, HW⟩ := hcut
  obtain ⟨ms, hps, hW⟩ := HW.out
  replace hW := hd hW
  replace hps := hd hps
  clear HW
  obtain ⟨pD, cD, zD, hap, hrow, hmod, hnew⟩ := pushM Tryd.underlying25 info_proc rfl (by omega) hW.out.own.head (by simp only; omega) mkP (m := 2) (by omega) rfl mkP_one (cs := #[.int .i64 77, .slice none 0 0, .int .i64 78, .slice none 0 0]) rfl
  have hcap : c.procs.length + 2 ≤ cD := hrow.capLe
  have hcI : (c.procs.length : Int) ≤ (cD : Int) := by omega
  obtain ⟨eD, rfl⟩ := hrow.head (by omega)
  have HD : Hid (WI w G zD (cfA c GG) (⟨42, 2, some ⟨eD, 0, none⟩, c.procs.length + 2, cD, psC ms ++ mkP⟩ :: dL c GG :: dT c GG :: ms.map wdP)) := hd (hW.out.turn hmod hrow hnew)
  have x1 := HD.out.cell 6
  have x2 := HD.out.free 6
  simp [cfA] at x1
  replace hap := hd hap
  clear hrow hmod hnew hW hcap
  go_upto_region 14 with (at_builtin; refine wpList_append_run rfl _ _ _ rfl _ _ _ _ rfl rfl hap.out ?_; clear hap)
  obtain ⟨w9, hw9⟩ : ∃ W, Hid (zD.setCell ⟨G, 6, none⟩ (.slice (some ⟨eD, 0, none⟩) c.procs.length cD) = W) := ⟨_, rfl⟩
  rw [hw9.out]
  have HE : Hid (WI w G w9 (cfA c { GG with pa := some ⟨eD, 0, none⟩, pc := cD, ms := ms }) (⟨42, 2, some ⟨eD, 0, none⟩, c.procs.length + 2, cD, psC ms ++ mkP⟩ :: dL c GG :: dT c GG :: ms.map wdP)) := hd (by rw [← hw9.out, ← setXA6 c GG _ _ ms]; exact HD.out.put 6 _)
  clear HD hw9 x1 x2
  have c0 := HE.out.cell 0
  have c1 := HE.out.cell 1
  have c2 := HE.out.cell 2
  have c3 := HE.out.cell 3
  have c4 := HE.out.cell 4
  have c5 := HE.out.cell 5
  have c6 := HE.out.cell 6
  simp [cfA] at c0 c1 c2 c3 c4 c5 c6
  have a0 := cell_of_row w9 (G + 1) 0 _ _ _ HE.out.b0
  have a1 := cell_of_row w9 (G + 1) 1 _ _ _ HE.out.b0
  have a2 := cell_of_row w9 (G + 1) 2 _ _ _ HE.out.b0
  have a3 := cell_of_row w9 (G + 1) 3 _ _ _ HE.out.b0
  have a4 := cell_of_row w9 (G + 1) 4 _ _ _ HE.out.b0
  have a5 := cell_of_row w9 (G + 1) 5 _ _ _ HE.out.b0
  have a6 := cell_of_row w9 (G + 1) 6 _ _ _ HE.out.b0
  simp at a0 a1 a2 a3 a4 a5 a6
  have fz : ∀ i, w9.frozen? ⟨G + 1, i, none⟩ = false := fun i => by simp [World.frozen?, HE.out.b0]
  go_wp2_with fail
  obtain ⟨e2, e3⟩ := put7_out HE.out.b0 (.slice GG.la c.labels.length GG.lc) (.slice GG.ta c.table.length GG.tc) (.int .i64 c.fuel) (.int .i64 c.lane) (.int .i64 c.locks) (.int .i64 c.log) (.slice (some ⟨eD, 0, none⟩) c.procs.length cD)
  unfold put7 at e2 e3
  generalize ((((((w9.setCell ⟨G + 1, 0, none⟩ (.slice GG.la c.labels.length GG.lc)).setCell ⟨G + 1, 1, none⟩ (.slice GG.ta c.table.length GG.tc)).setCell ⟨G + 1, 2, none⟩ (.int .i64 c.fuel)).setCell ⟨G + 1, 3, none⟩ (.int .i64 c.lane)).setCell ⟨G + 1, 4, none⟩ (.int .i64 c.locks)).setCell ⟨G + 1, 5, none⟩ (.int .i64 c.log)).setCell ⟨G + 1, 6, none⟩ (.slice (some ⟨eD, 0, none⟩) c.procs.length cD) = WZ at *
  have d0 := cell_of_row WZ (G + 1) 0 _ _ _ e2
  have d1 := cell_of_row WZ (G + 1) 1 _ _ _ e2
  have d2 := cell_of_row WZ (G + 1) 2 _ _ _ e2
  have d3 := cell_of_row WZ (G + 1) 3 _ _ _ e2
  have d4 := cell_of_row WZ (G + 1) 4 _ _ _ e2
  have d5 := cell_of_row WZ (G + 1) 5 _ _ _ e2
  have d6 := cell_of_row WZ (G + 1) 6 _ _ _ e2
  simp at d0 d1 d2 d3 d4 d5 d6
  have hG1 := hG.out
  have HF : WdO w.heap.size WZ c { GG with pa := some ⟨eD, 0, none⟩, pc := cD, ms := ms } := by
    have h1 := HE.out.own.mod e3 (fun d hd k hk e => by have := HE.out.own.new d hd k hk; omega)
    have h2 := (h1.perm (List.perm_middle (l₁ := [_, _])).symm).mono (B' := w.heap.size) (by omega)
    exact ⟨h2, hps.out⟩
  have HB : Below w.heap.size w WZ := HE.out.bel.trans (e3.below (B := w.heap.size) HE.out.bel.size (fun k _ hk => by omega))
  refine bodyPost_ret (v := cfV c { GG with pa := some ⟨eD, 0, none⟩, pc := cD, ms := ms }) ?_ rfl ⟨{ GG with pa := some ⟨eD, 0, none⟩, pc := cD, ms := ms }, rfl, HF, HB⟩
  simp [results, Tryd.results19, go_sem, cfV, cfA, d0, d1, d2, d3, d4, d5, d6]
end Go.Proofs.YtmjokinagbpihaaDoor
