/- The document's Skeleton, and Same of two that are the same. -/
import Derived.Test.YtmjokinagbpihaaDoorQS4
namespace Go.Proofs.YtmjokinagbpihaaDoor
open Go.RowKit

set_option maxRecDepth 100000 in
set_option maxHeartbeats 4000000 in
theorem dskel_any (c d : Cfg) (g h : Loc) (w : World) (hR : CfR w c g) (hS : CfR w d h) (hl : c.labels.length ≤ 9223372036854775807 ∧ c.table.length ≤ 9223372036854775807 ∧ c.procs.length ≤ 9223372036854775807) :
    Calls Tryd.prog 15 #[cfV c g, cfV d h] w fun e w' => e = .returned (.bool (skB c d)) ∧ Below w.heap.size w w' := by
  obtain ⟨r, hr⟩ : ∃ r, Hid (skB c d = r) := ⟨_, rfl⟩
  rw [hr.out]
  unfold cfV cfA
  obtain ⟨w1, hw1⟩ : ∃ W, Hid ((w.alloc (.cells #[.slice g.la c.labels.length g.lc, .slice g.ta c.table.length g.tc, .int .i64 c.fuel, .int .i64 c.lane, .int .i64 c.locks, .int .i64 c.log, .slice g.pa c.procs.length g.pc] 27)).alloc (.cells #[.slice h.la d.labels.length h.lc, .slice h.ta d.table.length h.tc, .int .i64 d.fuel, .int .i64 d.lane, .int .i64 d.locks, .int .i64 d.log, .slice h.pa d.procs.length h.pc] 27) = W) := ⟨_, rfl⟩
  have B1 : Hid (Below w.heap.size w w1) := hd (by rw [← hw1.out]; exact ((Below.refl _ w).alloc (Nat.le_refl _) _).alloc (by simp) _)
  obtain ⟨G, hG⟩ : ∃ G, Hid (w.heap.size = G) := ⟨_, rfl⟩
  have HG : Hid (w1.heap[G]? = some (.cells #[.slice g.la c.labels.length g.lc, .slice g.ta c.table.length g.tc, .int .i64 c.fuel, .int .i64 c.lane, .int .i64 c.locks, .int .i64 c.log, .slice g.pa c.procs.length g.pc] 27 (0, 0))) := hd (by rw [← hw1.out, ← hG.out, (below_al _ _).block _ (by simp)]; exact heap_alloc_new w _)
  have HH : Hid (w1.heap[G + 1]? = some (.cells #[.slice h.la d.labels.length h.lc, .slice h.ta d.table.length h.tc, .int .i64 d.fuel, .int .i64 d.lane, .int .i64 d.locks, .int .i64 d.log, .slice h.pa d.procs.length h.pc] 27 (0, 0))) := hd (by
    rw [← hw1.out, ← hG.out, show w.heap.size + 1 = (w.alloc (.cells #[.slice g.la c.labels.length g.lc, .slice g.ta c.table.length g.tc, .int .i64 c.fuel, .int .i64 c.lane, .int .i64 c.locks, .int .i64 c.log, .slice g.pa c.procs.length g.pc] 27)).heap.size by simp]
    exact heap_alloc_new _ _)
  have HX : Hid (∀ W, Below w1.heap.size w1 W → W.cell? ⟨G, 0, none⟩ = some (.slice g.la c.labels.length g.lc) ∧ W.cell? ⟨G, 1, none⟩ = some (.slice g.ta c.table.length g.tc) ∧ W.cell? ⟨G, 2, none⟩ = some (.int .i64 c.fuel) ∧ W.cell? ⟨G, 3, none⟩ = some (.int .i64 c.lane) ∧ W.cell? ⟨G, 4, none⟩ = some (.int .i64 c.locks) ∧ W.cell? ⟨G, 5, none⟩ = some (.int .i64 c.log) ∧ W.cell? ⟨G, 6, none⟩ = some (.slice g.pa c.procs.length g.pc)) := hd (fun W hW => by
    have h : W.heap[G]? = _ := (hW.block G (Array.getElem?_eq_some_iff.1 HG.out).1).trans HG.out
    exact ⟨cell_of_row W G 0 _ _ _ h, cell_of_row W G 1 _ _ _ h, cell_of_row W G 2 _ _ _ h, cell_of_row W G 3 _ _ _ h, cell_of_row W G 4 _ _ _ h, cell_of_row W G 5 _ _ _ h, cell_of_row W G 6 _ _ _ h⟩)
  have HY : Hid (∀ W, Below w1.heap.size w1 W → W.cell? ⟨G + 1, 0, none⟩ = some (.slice h.la d.labels.length h.lc) ∧ W.cell? ⟨G + 1, 1, none⟩ = some (.slice h.ta d.table.length h.tc) ∧ W.cell? ⟨G + 1, 2, none⟩ = some (.int .i64 d.fuel) ∧ W.cell? ⟨G + 1, 3, none⟩ = some (.int .i64 d.lane) ∧ W.cell? ⟨G + 1, 4, none⟩ = some (.int .i64 d.locks) ∧ W.cell? ⟨G + 1, 5, none⟩ = some (.int .i64 d.log) ∧ W.cell? ⟨G + 1, 6, none⟩ = some (.slice h.pa d.procs.length h.pc)) := hd (fun W hW => by
    have h : W.heap[G + 1]? = _ := (hW.block (G + 1) (Array.getElem?_eq_some_iff.1 HH.out).1).trans HH.out
    exact ⟨cell_of_row W (G + 1) 0 _ _ _ h, cell_of_row W (G + 1) 1 _ _ _ h, cell_of_row W (G + 1) 2 _ _ _ h, cell_of_row W (G + 1) 3 _ _ _ h, cell_of_row W (G + 1) 4 _ _ _ h, cell_of_row W (G + 1) 5 _ _ _ h, cell_of_row W (G + 1) 6 _ _ _ h⟩)
  have q1 := sameL_any g.la h.la g.lc h.lc c.labels d.labels w1 (hR.lab.below B1.out) (hS.lab.below B1.out) hl.1
  have Q2 : Hid (∀ W, Below w1.heap.size w1 W → Calls Tryd.prog 45 #[.slice g.ta c.table.length g.tc, .slice h.ta d.table.length h.tc] W fun e w' => e = .returned (.bool (c.table == d.table)) ∧ ∃ n, w' = W.drewN n) := hd (fun W hW => sameI_any g.ta h.ta g.tc h.tc c.table d.table W ((hR.tab.below B1.out).below hW) ((hS.tab.below B1.out).below hW) hl.2.1)
  have HE : Hid (r = ((c.labels == d.labels) && ((c.table == d.table) && (nmE c d && (parts c.procs == parts d.procs))))) := hd hr.out.symm
  have HN : Hid (nmE c d = (c.fuel == d.fuel && c.lane == d.lane && c.locks == d.locks && c.log == d.log)) := hd rfl
  have HP : Hid (∀ i, i < c.procs.length → c.procs.length = d.procs.length → ∃ b o b' o', g.pa = some ⟨b, o, none⟩ ∧ h.pa = some ⟨b', o', none⟩ ∧ ∀ W, Below w1.heap.size w1 W → W.cell? ⟨b, o + i * 2, none⟩ = some (.int .i64 ((parts c.procs).getD i 0)) ∧ W.cell? ⟨b', o' + i * 2, none⟩ = some (.int .i64 ((parts d.procs).getD i 0))) := hd (fun i hi he => by
    obtain ⟨b, o, e1, x0⟩ := (hR.prs.below B1.out) _ _ (psC_at g.ms i (by rw [hR.len]; exact hi)).1
    obtain ⟨b', o', e2, x1⟩ := (hS.prs.below B1.out) _ _ (psC_at h.ms i (by rw [hS.len]; omega)).1
    rw [hR.at i, ← parts_at _ _ hi] at x0
    rw [hS.at i, ← parts_at _ _ (by omega)] at x1
    exact ⟨b, o, b', o', e1, e2, fun W hW => ⟨(hW.cell (p := ⟨b, o + i * 2, none⟩) (World.block_lt_of_cell? w1 _ x0)).trans x0, (hW.cell (p := ⟨b', o' + i * 2, none⟩) (World.block_lt_of_cell? w1 _ x1)).trans x1⟩⟩)
  obtain ⟨X0, X1, X2, X3, X4, X5, X6⟩ := HX.out w1 (below_same w1)
  obtain ⟨Y0, Y1, Y2, Y3, Y4, Y5, Y6⟩ := HY.out w1 (below_same w1)
  have hl3 := hl.2.2
  clear hR hS hl HG HH hr
  generalize (c.labels == d.labels) = b1 at *
  generalize (c.table == d.table) = b2 at *
  generalize nmE c d = b3 at *
  have HLc := hd (parts_len c.procs)
  have HLd := hd (parts_len d.procs)
  generalize c.procs.length = n1 at *
  generalize d.procs.length = n2 at *
  generalize c.fuel = f1 at *
  generalize d.fuel = f2 at *
  generalize c.lane = l1 at *
  generalize d.lane = l2 at *
  generalize c.locks = k1 at *
  generalize d.locks = k2 at *
  generalize c.log = g1 at *
  generalize d.log = g2 at *
  go_enter Tryd.func15, Tryd.ntmps15
  go_upto_region 1 with fail
  rw [hw1.out, hG.out]
  cases b1
  · obtain rfl : r = false := by rw [HE.out]; rfl
    go_wp2_with (first | (go_at_call 44; refine q1.mono ?_; rintro e w2 ⟨rfl, hw2⟩; replace hw2 := hd hw2; have B2 : Hid (Below w1.heap.size w1 w2) := (by { obtain ⟨n, e⟩ := hw2.out; exact hd (by rw [e]; exact below_draw w1 n) }); obtain ⟨X0, X1, X2, X3, X4, X5, X6⟩ := HX.out w2 B2.out; obtain ⟨Y0, Y1, Y2, Y3, Y4, Y5, Y6⟩ := HY.out w2 B2.out; have q2 := Q2.out w2 B2.out) | (go_at_call 45; refine q2.mono ?_; rintro e w3 ⟨rfl, hw3⟩; replace hw3 := hd hw3; replace B2 : Hid (Below w1.heap.size w1 w3) := (by { obtain ⟨n, e⟩ := hw3.out; exact hd (by rw [e]; exact B2.out.trans ((below_draw w2 n).mono B2.out.size)) }); obtain ⟨X0, X1, X2, X3, X4, X5, X6⟩ := HX.out w3 B2.out; obtain ⟨Y0, Y1, Y2, Y3, Y4, Y5, Y6⟩ := HY.out w3 B2.out))
    go_ret
    exact ⟨rfl, B1.out.trans (B2.out.mono B1.out.size)⟩
  cases b2
  · obtain rfl : r = false := by rw [HE.out]; rfl
    go_wp2_with (first | (go_at_call 44; refine q1.mono ?_; rintro e w2 ⟨rfl, hw2⟩; replace hw2 := hd hw2; have B2 : Hid (Below w1.heap.size w1 w2) := (by { obtain ⟨n, e⟩ := hw2.out; exact hd (by rw [e]; exact below_draw w1 n) }); obtain ⟨X0, X1, X2, X3, X4, X5, X6⟩ := HX.out w2 B2.out; obtain ⟨Y0, Y1, Y2, Y3, Y4, Y5, Y6⟩ := HY.out w2 B2.out; have q2 := Q2.out w2 B2.out) | (go_at_call 45; refine q2.mono ?_; rintro e w3 ⟨rfl, hw3⟩; replace hw3 := hd hw3; replace B2 : Hid (Below w1.heap.size w1 w3) := (by { obtain ⟨n, e⟩ := hw3.out; exact hd (by rw [e]; exact B2.out.trans ((below_draw w2 n).mono B2.out.size)) }); obtain ⟨X0, X1, X2, X3, X4, X5, X6⟩ := HX.out w3 B2.out; obtain ⟨Y0, Y1, Y2, Y3, Y4, Y5, Y6⟩ := HY.out w3 B2.out))
    go_ret
    exact ⟨rfl, B1.out.trans (B2.out.mono B1.out.size)⟩
  by_cases h_f : f1 = f2
  case neg =>
    have t_f : (f1 == f2) = false := by simpa using h_f
    obtain rfl : r = false := by rw [HE.out, HN.out, t_f]; simp
    go_wp2_with (first | (go_at_call 44; refine q1.mono ?_; rintro e w2 ⟨rfl, hw2⟩; replace hw2 := hd hw2; have B2 : Hid (Below w1.heap.size w1 w2) := (by { obtain ⟨n, e⟩ := hw2.out; exact hd (by rw [e]; exact below_draw w1 n) }); obtain ⟨X0, X1, X2, X3, X4, X5, X6⟩ := HX.out w2 B2.out; obtain ⟨Y0, Y1, Y2, Y3, Y4, Y5, Y6⟩ := HY.out w2 B2.out; have q2 := Q2.out w2 B2.out) | (go_at_call 45; refine q2.mono ?_; rintro e w3 ⟨rfl, hw3⟩; replace hw3 := hd hw3; replace B2 : Hid (Below w1.heap.size w1 w3) := (by { obtain ⟨n, e⟩ := hw3.out; exact hd (by rw [e]; exact B2.out.trans ((below_draw w2 n).mono B2.out.size)) }); obtain ⟨X0, X1, X2, X3, X4, X5, X6⟩ := HX.out w3 B2.out; obtain ⟨Y0, Y1, Y2, Y3, Y4, Y5, Y6⟩ := HY.out w3 B2.out))
    go_ret
    exact ⟨rfl, B1.out.trans (B2.out.mono B1.out.size)⟩
  subst h_f
  by_cases h_l : l1 = l2
  case neg =>
    have t_l : (l1 == l2) = false := by simpa using h_l
    obtain rfl : r = false := by rw [HE.out, HN.out, t_l]; simp
    go_wp2_with (first | (go_at_call 44; refine q1.mono ?_; rintro e w2 ⟨rfl, hw2⟩; replace hw2 := hd hw2; have B2 : Hid (Below w1.heap.size w1 w2) := (by { obtain ⟨n, e⟩ := hw2.out; exact hd (by rw [e]; exact below_draw w1 n) }); obtain ⟨X0, X1, X2, X3, X4, X5, X6⟩ := HX.out w2 B2.out; obtain ⟨Y0, Y1, Y2, Y3, Y4, Y5, Y6⟩ := HY.out w2 B2.out; have q2 := Q2.out w2 B2.out) | (go_at_call 45; refine q2.mono ?_; rintro e w3 ⟨rfl, hw3⟩; replace hw3 := hd hw3; replace B2 : Hid (Below w1.heap.size w1 w3) := (by { obtain ⟨n, e⟩ := hw3.out; exact hd (by rw [e]; exact B2.out.trans ((below_draw w2 n).mono B2.out.size)) }); obtain ⟨X0, X1, X2, X3, X4, X5, X6⟩ := HX.out w3 B2.out; obtain ⟨Y0, Y1, Y2, Y3, Y4, Y5, Y6⟩ := HY.out w3 B2.out))
    go_ret
    exact ⟨rfl, B1.out.trans (B2.out.mono B1.out.size)⟩
  subst h_l
  by_cases h_k : k1 = k2
  case neg =>
    have t_k : (k1 == k2) = false := by simpa using h_k
    obtain rfl : r = false := by rw [HE.out, HN.out, t_k]; simp
    go_wp2_with (first | (go_at_call 44; refine q1.mono ?_; rintro e w2 ⟨rfl, hw2⟩; replace hw2 := hd hw2; have B2 : Hid (Below w1.heap.size w1 w2) := (by { obtain ⟨n, e⟩ := hw2.out; exact hd (by rw [e]; exact below_draw w1 n) }); obtain ⟨X0, X1, X2, X3, X4, X5, X6⟩ := HX.out w2 B2.out; obtain ⟨Y0, Y1, Y2, Y3, Y4, Y5, Y6⟩ := HY.out w2 B2.out; have q2 := Q2.out w2 B2.out) | (go_at_call 45; refine q2.mono ?_; rintro e w3 ⟨rfl, hw3⟩; replace hw3 := hd hw3; replace B2 : Hid (Below w1.heap.size w1 w3) := (by { obtain ⟨n, e⟩ := hw3.out; exact hd (by rw [e]; exact B2.out.trans ((below_draw w2 n).mono B2.out.size)) }); obtain ⟨X0, X1, X2, X3, X4, X5, X6⟩ := HX.out w3 B2.out; obtain ⟨Y0, Y1, Y2, Y3, Y4, Y5, Y6⟩ := HY.out w3 B2.out))
    go_ret
    exact ⟨rfl, B1.out.trans (B2.out.mono B1.out.size)⟩
  subst h_k
  by_cases h_g : g1 = g2
  case neg =>
    have t_g : (g1 == g2) = false := by simpa using h_g
    obtain rfl : r = false := by rw [HE.out, HN.out, t_g]; simp
    go_wp2_with (first | (go_at_call 44; refine q1.mono ?_; rintro e w2 ⟨rfl, hw2⟩; replace hw2 := hd hw2; have B2 : Hid (Below w1.heap.size w1 w2) := (by { obtain ⟨n, e⟩ := hw2.out; exact hd (by rw [e]; exact below_draw w1 n) }); obtain ⟨X0, X1, X2, X3, X4, X5, X6⟩ := HX.out w2 B2.out; obtain ⟨Y0, Y1, Y2, Y3, Y4, Y5, Y6⟩ := HY.out w2 B2.out; have q2 := Q2.out w2 B2.out) | (go_at_call 45; refine q2.mono ?_; rintro e w3 ⟨rfl, hw3⟩; replace hw3 := hd hw3; replace B2 : Hid (Below w1.heap.size w1 w3) := (by { obtain ⟨n, e⟩ := hw3.out; exact hd (by rw [e]; exact B2.out.trans ((below_draw w2 n).mono B2.out.size)) }); obtain ⟨X0, X1, X2, X3, X4, X5, X6⟩ := HX.out w3 B2.out; obtain ⟨Y0, Y1, Y2, Y3, Y4, Y5, Y6⟩ := HY.out w3 B2.out))
    go_ret
    exact ⟨rfl, B1.out.trans (B2.out.mono B1.out.size)⟩
  subst h_g
  have HE2 : Hid (r = (parts c.procs == parts d.procs)) := hd (by rw [HE.out, HN.out]; simp)
  by_cases hlen : n1 = n2
  case neg =>
    have t_len : ((n1 : Int) == (n2 : Int)) = false := by simp; omega
    obtain rfl : r = false := by rw [HE2.out]; exact ne_len _ _ (by rw [HLc.out, HLd.out]; exact hlen)
    go_wp2_with (first | (go_at_call 44; refine q1.mono ?_; rintro e w2 ⟨rfl, hw2⟩; replace hw2 := hd hw2; have B2 : Hid (Below w1.heap.size w1 w2) := (by { obtain ⟨n, e⟩ := hw2.out; exact hd (by rw [e]; exact below_draw w1 n) }); obtain ⟨X0, X1, X2, X3, X4, X5, X6⟩ := HX.out w2 B2.out; obtain ⟨Y0, Y1, Y2, Y3, Y4, Y5, Y6⟩ := HY.out w2 B2.out; have q2 := Q2.out w2 B2.out) | (go_at_call 45; refine q2.mono ?_; rintro e w3 ⟨rfl, hw3⟩; replace hw3 := hd hw3; replace B2 : Hid (Below w1.heap.size w1 w3) := (by { obtain ⟨n, e⟩ := hw3.out; exact hd (by rw [e]; exact B2.out.trans ((below_draw w2 n).mono B2.out.size)) }); obtain ⟨X0, X1, X2, X3, X4, X5, X6⟩ := HX.out w3 B2.out; obtain ⟨Y0, Y1, Y2, Y3, Y4, Y5, Y6⟩ := HY.out w3 B2.out))
    go_ret
    exact ⟨rfl, B1.out.trans (B2.out.mono B1.out.size)⟩
  subst hlen
  clear HE HN
  go_upto_block 0 with (first | (go_at_call 44; refine q1.mono ?_; rintro e w2 ⟨rfl, hw2⟩; replace hw2 := hd hw2; have B2 : Hid (Below w1.heap.size w1 w2) := (by { obtain ⟨n, e⟩ := hw2.out; exact hd (by rw [e]; exact below_draw w1 n) }); obtain ⟨X0, X1, X2, X3, X4, X5, X6⟩ := HX.out w2 B2.out; obtain ⟨Y0, Y1, Y2, Y3, Y4, Y5, Y6⟩ := HY.out w2 B2.out; have q2 := Q2.out w2 B2.out) | (go_at_call 45; refine q2.mono ?_; rintro e w3 ⟨rfl, hw3⟩; replace hw3 := hd hw3; replace B2 : Hid (Below w1.heap.size w1 w3) := (by { obtain ⟨n, e⟩ := hw3.out; exact hd (by rw [e]; exact B2.out.trans ((below_draw w2 n).mono B2.out.size)) }); obtain ⟨X0, X1, X2, X3, X4, X5, X6⟩ := HX.out w3 B2.out; obtain ⟨Y0, Y1, Y2, Y3, Y4, Y5, Y6⟩ := HY.out w3 B2.out))
  clear X0 X1 X2 X3 X4 X5 X6 Y0 Y1 Y2 Y3 Y4 Y5 Y6 q1 q2 Q2 hw2 hw3
  go_wp2_with fail
  go_loopg [5, 57, 58, 59, 60, 61, 62, 63, 64, 65, 66, 67, 68, 69, 70, 71, 72, 73, 74, 75, 76] n1 (fun gg v5 v57 v58 v59 v60 v61 v62 v63 v64 v65 v66 v67 v68 v69 v70 v71 v72 v73 v74 v75 v76 wr => ∃ (i : Nat), i + gg = n1 ∧ v5 = .int .i64 (i : Int) ∧ Hid (Below w1.heap.size w1 wr) ∧ Hid (∀ j, j < i → (parts c.procs).getD j 0 = (parts d.procs).getD j 0))
  case atStart => exact ⟨0, by omega, by go_num, B2, hd (fun j hj => by omega)⟩
  case round =>
    clear B2
    obtain ⟨i, hi, rfl, B2, HA⟩ := hrel
    by_cases h0 : gk = 0
    · subst h0
      obtain rfl : i = n1 := by omega
      have hge : decide ((i : Int) < (i : Int)) = false := by simp
      obtain rfl : r = true := by rw [HE2.out]; exact eq_lists _ _ (by rw [HLc.out, HLd.out]) (fun j hj => HA.out j (by rw [HLc.out] at hj; exact hj))
      obtain ⟨-, -, -, -, -, -, X6⟩ := HX.out wr B2.out
      go_wp2_with fail
      go_ret
      exact ⟨rfl, B1.out.trans (B2.out.mono B1.out.size)⟩
    · have hlt : (i : Int) < (n1 : Int) := by omega
      obtain ⟨bx, ox, by_, oy, e1, e2, hcell⟩ := HP.out i (by omega) (by trivial)
      obtain ⟨z1, z2⟩ := hcell wr B2.out
      obtain ⟨-, -, -, -, -, -, X6⟩ := HX.out wr B2.out
      obtain ⟨-, -, -, -, -, -, Y6⟩ := HY.out wr B2.out
      rw [e1] at X6
      rw [e2] at Y6
      have HS : Hid ((parts c.procs).getD i 0 = (parts d.procs).getD i 0 → ∀ j, j < i + 1 → (parts c.procs).getD j 0 = (parts d.procs).getD j 0) := hd (fun he j hj => by
        by_cases e : j = i
        · rw [e]; exact he
        · exact HA.out j (by omega))
      have HF : Hid ((parts c.procs).getD i 0 ≠ (parts d.procs).getD i 0 → r = false) := hd (fun he => by rw [HE2.out]; exact ne_lists _ _ i he)
      replace e1 := hd e1
      replace e2 := hd e2
      clear HA hcell HE2
      generalize (parts c.procs).getD i 0 = p at *
      generalize (parts d.procs).getD i 0 = q at *
      by_cases he : p = q
      · subst he
        go_upto_region 6 with fail
        go_quiet (fail)
        go_wp2_with fail
        go_roundg (gk - 1)
        case rel => exact ⟨i + 1, by omega, by go_num, hd (B2.out.trans ((below_draw wr nq).mono B2.out.size)), hd (HS.out (by trivial))⟩
        case measure => omega
      · obtain rfl : r = false := HF.out he
        have he' : (p == q) = false := by simpa using he
        go_upto_region 6 with fail
        go_quiet (fail)
        go_wp2_with fail
        go_ret
        exact ⟨rfl, B1.out.trans ((B2.out.trans ((below_draw wr nq).mono B2.out.size)).mono B1.out.size)⟩
end Go.Proofs.YtmjokinagbpihaaDoor
