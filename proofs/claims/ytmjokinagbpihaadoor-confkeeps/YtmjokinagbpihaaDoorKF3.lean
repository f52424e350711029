/- The law's kept. -/
import Derived.Test.YtmjokinagbpihaaDoorGKf
import Derived.Test.YtmjokinagbpihaaDoorKW2
namespace Go.Proofs.YtmjokinagbpihaaDoor
open Go.RowKit

theorem rd_off {W : World} {b n : Nat} {xs us : List Value} (h : Rd W (some ⟨b, 0, none⟩) (xs ++ us)) (hn : xs.length = n) : Rd W (some ⟨b, n, none⟩) us := fun j u hj => by
  obtain ⟨b', o', e, hc⟩ := h (n + j) u (by rw [List.getElem?_append_right (by omega), hn, Nat.add_sub_cancel_left]; exact hj)
  cases e
  rw [Nat.zero_add] at hc
  exact ⟨b, n, rfl, hc⟩
theorem rd_at {W : World} {b n : Nat} {us : List Value} (h : Rd W (some ⟨b, n, none⟩) us) (r : Nat) (u : Value) (hr : us[r]? = some u) : W.cell? ⟨b, n + r, none⟩ = some u := by
  obtain ⟨b', o', e, hc⟩ := h r u hr
  cases e
  exact hc

set_option maxRecDepth 100000 in
set_option maxHeartbeats 8000000 in
theorem kept_go (c : Cfg) (bl lw bt tw bq pw : Nat) (mw : List PrM) (g : Loc) (B : Nat) (w : World) (hW : WdO B w c ⟨some ⟨bl, 0, none⟩, lw, some ⟨bt, 0, none⟩, tw, some ⟨bq, 0, none⟩, pw, mw⟩) (hR : CfR w c g) (hF : FewC c) :
    Calls Tryd.prog 21 #[.agg #[.slice (some ⟨bl, 0, none⟩) c.labels.length lw, .slice (some ⟨bt, 0, none⟩) c.table.length tw, .int .i64 c.fuel, .int .i64 c.lane, .int .i64 c.locks, .int .i64 c.log, .slice (some ⟨bq, 0, none⟩) c.procs.length pw], cfV c g] w fun e w' => e = .returned (.bool true) ∧ Below w.heap.size w w' := by
  obtain ⟨la, lc, ta, tc, pa, pc, ms⟩ := g
  unfold cfV cfA
  simp only
  obtain ⟨hl0, hl1, hl2, hl3⟩ := hF
  replace hl3 := hd hl3
  obtain ⟨w1, hw1⟩ : ∃ W, Hid ((w.alloc (.cells #[.slice (some ⟨bl, 0, none⟩) c.labels.length lw, .slice (some ⟨bt, 0, none⟩) c.table.length tw, .int .i64 c.fuel, .int .i64 c.lane, .int .i64 c.locks, .int .i64 c.log, .slice (some ⟨bq, 0, none⟩) c.procs.length pw] 27)).alloc (.cells #[.slice la c.labels.length lc, .slice ta c.table.length tc, .int .i64 c.fuel, .int .i64 c.lane, .int .i64 c.locks, .int .i64 c.log, .slice pa c.procs.length pc] 27) = W) := ⟨_, rfl⟩
  have B1 : Hid (Below w.heap.size w w1) := hd (by rw [← hw1.out]; exact ((Below.refl _ w).alloc (Nat.le_refl _) _).alloc (by simp) _)
  obtain ⟨G, hG⟩ : ∃ G, Hid (w.heap.size = G) := ⟨_, rfl⟩
  obtain ⟨H, hH⟩ : ∃ G, Hid (w.heap.size + 1 = G) := ⟨_, rfl⟩
  have HG : Hid (w1.heap[G]? = some (.cells #[.slice (some ⟨bl, 0, none⟩) c.labels.length lw, .slice (some ⟨bt, 0, none⟩) c.table.length tw, .int .i64 c.fuel, .int .i64 c.lane, .int .i64 c.locks, .int .i64 c.log, .slice (some ⟨bq, 0, none⟩) c.procs.length pw] 27 (0, 0))) := hd (by rw [← hw1.out, ← hG.out, (below_al _ _).block _ (by simp)]; exact heap_alloc_new w _)
  have HH : Hid (w1.heap[H]? = some (.cells #[.slice la c.labels.length lc, .slice ta c.table.length tc, .int .i64 c.fuel, .int .i64 c.lane, .int .i64 c.locks, .int .i64 c.log, .slice pa c.procs.length pc] 27 (0, 0))) := hd (by
    rw [← hw1.out, ← hH.out, show w.heap.size + 1 = (w.alloc (.cells #[.slice (some ⟨bl, 0, none⟩) c.labels.length lw, .slice (some ⟨bt, 0, none⟩) c.table.length tw, .int .i64 c.fuel, .int .i64 c.lane, .int .i64 c.locks, .int .i64 c.log, .slice (some ⟨bq, 0, none⟩) c.procs.length pw] 27)).heap.size by simp]
    exact heap_alloc_new _ _)
  rw [hG.out] at hH
  have K0 : Hid (∀ W, Below w1.heap.size w1 W → (W.cell? ⟨G, 0, none⟩ = some (.slice (some ⟨bl, 0, none⟩) c.labels.length lw) ∧ W.cell? ⟨G, 1, none⟩ = some (.slice (some ⟨bt, 0, none⟩) c.table.length tw) ∧ W.cell? ⟨G, 2, none⟩ = some (.int .i64 c.fuel) ∧ W.cell? ⟨G, 3, none⟩ = some (.int .i64 c.lane) ∧ W.cell? ⟨G, 4, none⟩ = some (.int .i64 c.locks) ∧ W.cell? ⟨G, 5, none⟩ = some (.int .i64 c.log) ∧ W.cell? ⟨G, 6, none⟩ = some (.slice (some ⟨bq, 0, none⟩) c.procs.length pw)) ∧ (W.cell? ⟨H, 0, none⟩ = some (.slice la c.labels.length lc) ∧ W.cell? ⟨H, 1, none⟩ = some (.slice ta c.table.length tc) ∧ W.cell? ⟨H, 2, none⟩ = some (.int .i64 c.fuel) ∧ W.cell? ⟨H, 3, none⟩ = some (.int .i64 c.lane) ∧ W.cell? ⟨H, 4, none⟩ = some (.int .i64 c.locks) ∧ W.cell? ⟨H, 5, none⟩ = some (.int .i64 c.log) ∧ W.cell? ⟨H, 6, none⟩ = some (.slice pa c.procs.length pc))) := hd (fun W hW => by
    have h1 : W.heap[G]? = _ := (hW.block G (Array.getElem?_eq_some_iff.1 HG.out).1).trans HG.out
    have h2 : W.heap[H]? = _ := (hW.block H (Array.getElem?_eq_some_iff.1 HH.out).1).trans HH.out
    exact ⟨⟨cell_of_row W G 0 _ _ _ h1, cell_of_row W G 1 _ _ _ h1, cell_of_row W G 2 _ _ _ h1, cell_of_row W G 3 _ _ _ h1, cell_of_row W G 4 _ _ _ h1, cell_of_row W G 5 _ _ _ h1, cell_of_row W G 6 _ _ _ h1⟩, ⟨cell_of_row W H 0 _ _ _ h2, cell_of_row W H 1 _ _ _ h2, cell_of_row W H 2 _ _ _ h2, cell_of_row W H 3 _ _ _ h2, cell_of_row W H 4 _ _ _ h2, cell_of_row W H 5 _ _ _ h2, cell_of_row W H 6 _ _ _ h2⟩⟩)
  have HWk : Hid (∀ W, Below w1.heap.size w1 W → WdO B W c ⟨some ⟨bl, 0, none⟩, lw, some ⟨bt, 0, none⟩, tw, some ⟨bq, 0, none⟩, pw, mw⟩) := hd (fun W h => (hW.below B1.out).below h)
  have HRk : Hid (∀ W, Below w1.heap.size w1 W → CfR W c ⟨la, lc, ta, tc, pa, pc, ms⟩) := hd (fun W h => (hR.below B1.out).below h)
  have hcL : c.labels.length + 2 ≤ lw := (hW.own.ok _ List.mem_cons_self).capLe
  have hcT : c.table.length + 2 ≤ tw := (hW.own.ok _ (List.mem_cons_of_mem _ List.mem_cons_self)).capLe
  have hcP : c.procs.length + 2 ≤ pw := (hW.own.ok _ (List.mem_cons_of_mem _ (List.mem_cons_of_mem _ List.mem_cons_self))).capLe
  have hcLI : (c.labels.length : Int) + 2 ≤ (lw : Int) := by omega
  have hcTI : (c.table.length : Int) + 2 ≤ (tw : Int) := by omega
  have hcPI : (c.procs.length : Int) + 2 ≤ (pw : Int) := by omega
  clear hW hR HG HH
  go_enter Tryd.func21, Tryd.ntmps21
  go_upto_region 1 with fail
  rw [hw1.out, hG.out, hH.out]
  clear hw1 hG hH
  obtain ⟨⟨a0, a1, a2, a3, a4, a5, a6⟩, ⟨b0, b1, b2, b3, b4, b5, b6⟩⟩ := K0.out w1 (below_same w1)
  go_quiet (fail)
  obtain ⟨w2, hw2⟩ : ∃ W, Hid (w1.drewN nq = W) := ⟨_, rfl⟩
  rw [hw2.out]
  have b2w : Hid (Below w1.heap.size w1 w2) := hd (by rw [← hw2.out]; exact below_draw w1 nq)
  clear hw2 a0 a1 a2 a3 a4 a5 a6 b0 b1 b2 b3 b4 b5 b6
  obtain ⟨⟨a0, a1, a2, a3, a4, a5, a6⟩, ⟨b0, b1, b2, b3, b4, b5, b6⟩⟩ := K0.out w2 b2w.out
  have hsame : Calls Tryd.prog 18 #[.agg #[.slice (some ⟨bl, 0, none⟩) c.labels.length lw, .slice (some ⟨bt, 0, none⟩) c.table.length tw, .int .i64 c.fuel, .int .i64 c.lane, .int .i64 c.locks, .int .i64 c.log, .slice (some ⟨bq, 0, none⟩) c.procs.length pw], .agg #[.slice la c.labels.length lc, .slice ta c.table.length tc, .int .i64 c.fuel, .int .i64 c.lane, .int .i64 c.locks, .int .i64 c.log, .slice pa c.procs.length pc]] w2 fun e w' => e = .returned (.bool true) ∧ Below w2.heap.size w2 w' := dsame_yes c ⟨some ⟨bl, 0, none⟩, lw, some ⟨bt, 0, none⟩, tw, some ⟨bq, 0, none⟩, pw, mw⟩ ⟨la, lc, ta, tc, pa, pc, ms⟩ w2 (HWk.out w2 b2w.out).cfO.rd (HRk.out w2 b2w.out) (by omega) (fun p hp => by have := hl3.out p hp; omega)
  have HL : Hid (∀ W, Below w1.heap.size w1 W → Calls Tryd.prog 44 #[.slice (some ⟨bl, c.labels.length, none⟩) 2 (lw - c.labels.length), .slice (some ⟨W.heap.size, 0, none⟩) 2 2] (W.alloc (.cells #[.int .u64 161, .int .u64 162] 65)) fun e w' => e = .returned (.bool true) ∧ Below W.heap.size W w') := hd (fun W hb => by
    have h1 : Rd W (some ⟨bl, c.labels.length, none⟩) mkL := rd_off ((HWk.out W hb).own.ok _ List.mem_cons_self).rd (by simp [labC])
    have h2 := sameL_any (some ⟨bl, c.labels.length, none⟩) (some ⟨W.heap.size, 0, none⟩) (lw - c.labels.length) 2 [161, 162] [161, 162] (W.alloc (.cells #[.int .u64 161, .int .u64 162] 65)) (h1.below (below_al W _)) (fun j u hj => ⟨_, 0, rfl, by rw [Nat.zero_add, cell_of_row _ _ _ _ _ _ (heap_alloc_new W _)]; simpa [labC] using hj⟩) (by decide)
    exact h2.mono fun e w' ⟨he, n, hw⟩ => ⟨he, by rw [hw]; exact (below_al W _).trans ((below_draw _ n).mono (below_al W _).size)⟩)
  have HT : Hid (∀ W, Below w1.heap.size w1 W → Calls Tryd.prog 45 #[.slice (some ⟨bt, c.table.length, none⟩) 2 (tw - c.table.length), .slice (some ⟨W.heap.size, 0, none⟩) 2 2] (W.alloc (.cells #[.int .i64 161, .int .i64 162] 3)) fun e w' => e = .returned (.bool true) ∧ Below W.heap.size W w') := hd (fun W hb => by
    have h1 : Rd W (some ⟨bt, c.table.length, none⟩) mkT := rd_off ((HWk.out W hb).own.ok _ (List.mem_cons_of_mem _ List.mem_cons_self)).rd (by simp [iC])
    have h2 := sameI_any (some ⟨bt, c.table.length, none⟩) (some ⟨W.heap.size, 0, none⟩) (tw - c.table.length) 2 [161, 162] [161, 162] (W.alloc (.cells #[.int .i64 161, .int .i64 162] 3)) (h1.below (below_al W _)) (fun j u hj => ⟨_, 0, rfl, by rw [Nat.zero_add, cell_of_row _ _ _ _ _ _ (heap_alloc_new W _)]; simpa [iC] using hj⟩) (by decide)
    exact h2.mono fun e w' ⟨he, n, hw⟩ => ⟨he, by rw [hw]; exact (below_al W _).trans ((below_draw _ n).mono (below_al W _).size)⟩)
  go_upto_region 2 with fail
  go_wp2_with fail
  with_reducible refine hsame.mono ?_
  rintro e w3 ⟨rfl, b3⟩
  have B3 : Hid (Below w1.heap.size w1 w3) := hd (b2w.out.trans (b3.mono b2w.out.size))
  clear b3 a0 a1 a2 a3 a4 a5 a6 b0 b1 b2 b4 b5 b6 hsame
  obtain ⟨⟨a0, a1, -⟩, -⟩ := K0.out w3 B3.out
  have hlc := HL.out w3 B3.out
  go_wp2_with fail
  with_reducible refine hlc.mono ?_
  rintro e w4 ⟨rfl, b4⟩
  have B4 : Hid (Below w1.heap.size w1 w4) := hd (B3.out.trans (b4.mono B3.out.size))
  clear b4 a0 a1 hlc
  obtain ⟨⟨-, a1, -⟩, -⟩ := K0.out w4 B4.out
  have htc := HT.out w4 B4.out
  go_wp2_with fail
  with_reducible refine htc.mono ?_
  rintro e w5 ⟨rfl, b5⟩
  have B5 : Hid (Below w1.heap.size w1 w5) := hd (B4.out.trans (b5.mono B4.out.size))
  clear b5 a1 htc HL HT B3 B4 b2w
  obtain ⟨⟨-, -, -, -, -, -, a6⟩, -⟩ := K0.out w5 B5.out
  have HPr : Hid (∀ W, Below w1.heap.size w1 W → W.cell? ⟨bq, c.procs.length * 2, none⟩ = some (.int .i64 77) ∧ W.cell? ⟨bq, c.procs.length * 2 + 1, none⟩ = some (.slice none 0 0) ∧ W.cell? ⟨bq, (c.procs.length + 1) * 2, none⟩ = some (.int .i64 78) ∧ W.cell? ⟨bq, (c.procs.length + 1) * 2 + 1, none⟩ = some (.slice none 0 0)) := hd (fun W hb => by
    have hw := HWk.out W hb
    have hl : c.procs.length = mw.length := by rw [← hw.ps, psOf_len]
    have h1 : Rd W (some ⟨bq, c.procs.length * 2, none⟩) mkP := rd_off (hw.own.ok _ (List.mem_cons_of_mem _ (List.mem_cons_of_mem _ List.mem_cons_self))).rd (by rw [psC_len, hl])
    refine ⟨rd_at h1 0 _ rfl, rd_at h1 1 _ rfl, ?_, ?_⟩
    · have := rd_at h1 2 _ rfl
      rwa [show c.procs.length * 2 + 2 = (c.procs.length + 1) * 2 by omega] at this
    · have := rd_at h1 3 _ rfl
      rwa [show c.procs.length * 2 + 3 = (c.procs.length + 1) * 2 + 1 by omega] at this)
  obtain ⟨p0, p1, p2, p3⟩ := HPr.out w5 B5.out
  have hnp : (0 : Int) ≤ (c.procs.length : Int) := by omega
  go_upto_region 7 with fail
  clear p0 p1 p2 p3 HPr
  obtain ⟨-, ⟨-, -, -, -, -, -, b6⟩⟩ := K0.out w5 B5.out
  go_upto_block 0 with fail
  clear a6 b6
  go_wp2_with fail
  go_loopg [9, 10, 11, 89, 90, 91, 92, 93, 94, 95, 96, 97, 98, 99, 100, 101, 102, 103, 104, 105, 106, 107, 108, 109, 110, 111, 112, 113, 114, 115, 116, 117, 118, 119, 120, 121, 122, 123, 124] c.procs.length (fun gg v9 v10 v11 v89 v90 v91 v92 v93 v94 v95 v96 v97 v98 v99 v100 v101 v102 v103 v104 v105 v106 v107 v108 v109 v110 v111 v112 v113 v114 v115 v116 v117 v118 v119 v120 v121 v122 v123 v124 wr => ∃ i : Nat, v89 = .int .i64 (i : Int) ∧ i + gg = c.procs.length ∧ Hid (Below w1.heap.size w1 wr))
  case atStart => exact ⟨0, by go_num, by omega, B5⟩
  case round =>
    clear B5
    obtain ⟨i, rfl, hi, HB⟩ := hrel
    by_cases h0 : gk = 0
    · subst h0
      have hge : decide ((i : Int) < (c.procs.length : Int)) = false := by simp; omega
      have hge' : (c.procs.length : Int) ≤ (i : Int) := by omega
      go_wp2_with fail
      go_ret
      exact ⟨rfl, B1.out.trans (HB.out.mono B1.out.size)⟩
    · have hlt : (i : Int) < (c.procs.length : Int) := by omega
      have HRr := hd (HRk.out wr HB.out)
      have hims : i < ms.length := by have := HRr.out.len; simp only at this; omega
      obtain ⟨b, o, epa, y0⟩ := HRr.out.prs _ _ (psC_at ms i hims).1
      simp only at epa
      subst epa
      obtain ⟨b', o', epa', y1⟩ := HRr.out.prs _ _ (psC_at ms i hims).2
      cases epa'
      have hx1 : o + (i * 2 + 1) = o + i * 2 + 1 := by omega
      rw [hx1] at y1
      have HAt := hd (HRr.out.at i)
      simp only at HAt
      have hml : Hid (c.procs.length = mw.length) := hd (by rw [← (HWk.out wr HB.out).ps, psOf_len])
      have himw : i < mw.length := by rw [← hml.out]; omega
      have hcl : (ms.getD i default).p.code.length ≤ 1048576 := by
        rw [HAt.out]
        exact hl3.out _ (getD_mem (by omega) default)
      have HAw := hd ((HWk.out wr HB.out).cfO.rd.at i)
      simp only at HAw
      have hsl : Hid ((mw.getD i default).p.code.length = (ms.getD i default).p.code.length) := hd (by rw [HAw.out, HAt.out])
      have HMw : Hid (∀ W, Below w1.heap.size w1 W → Row W 71 5 (mw.getD i default).a ((mw.getD i default).p.code.length + 2) (mw.getD i default).c (pCells (mw.getD i default).p.code ++ mkI) ∧ W.cell? ⟨bq, i * 2 + 1, none⟩ = some (.slice (mw.getD i default).a (mw.getD i default).p.code.length (mw.getD i default).c)) := hd (fun W hb => by
        have hw := HWk.out W hb
        refine ⟨hw.own.ok (wdP (mw.getD i default)) (List.mem_cons_of_mem _ (List.mem_cons_of_mem _ (List.mem_cons_of_mem _ (List.mem_map_of_mem (getD_mem himw default))))), ?_⟩
        obtain ⟨b2, o2, e2, h2⟩ := hw.cfO.rd.prs _ _ (psC_at mw i himw).2
        cases e2
        rw [Nat.zero_add] at h2
        exact h2)
      clear HRr HAt HAw
      generalize ms.getD i default = m at *
      generalize mw.getD i default = mm at *
      obtain ⟨⟨part, code⟩, ma, mc⟩ := m
      obtain ⟨⟨part2, code2⟩, ma2, mc2⟩ := mm
      simp only at y0 y1 hcl HMw hsl
      rw [hsl.out] at HMw
      obtain ⟨bm, rfl⟩ := (HMw.out wr HB.out).1.head (by omega)
      have hcap : code.length + 2 ≤ mc2 := (HMw.out wr HB.out).1.capLe
      have hcapI : (code.length : Int) + 2 ≤ (mc2 : Int) := by omega
      go_upto_region 10 with fail
      obtain ⟨wa, hwa⟩ : ∃ W, Hid (wr.alloc (.cells #[.int .i64 part, .slice ma code.length mc] 42) = W) := ⟨_, rfl⟩
      rw [hwa.out]
      have ba : Hid (Below wr.heap.size wr wa) := hd (by rw [← hwa.out]; exact below_al wr _)
      have HBx : Hid (wa.heap[wr.heap.size]? = some (.cells #[.int .i64 part, .slice ma code.length mc] 42 (0, 0))) := hd (by rw [← hwa.out]; exact heap_alloc_new wr _)
      obtain ⟨Bp, hBp⟩ : ∃ B, Hid (wr.heap.size = B) := ⟨_, rfl⟩
      rw [hBp.out] at HBx ⊢
      clear hwa y0 y1 hBp
      have Ba : Hid (Below w1.heap.size w1 wa) := hd (HB.out.trans (ba.out.mono HB.out.size))
      have z1 := cell_of_row wa Bp 1 _ _ _ HBx.out
      simp at z1
      obtain ⟨⟨-, -, -, -, -, -, a6⟩, -⟩ := K0.out wa Ba.out
      have y2 := (HMw.out wa Ba.out).2
      go_quiet (fail)
      obtain ⟨wb, hwb⟩ : ∃ W, Hid (wa.drewN nq = W) := ⟨_, rfl⟩
      rw [hwb.out]
      have bb : Hid (Below wa.heap.size wa wb) := hd (by rw [← hwb.out]; exact below_draw wa nq)
      have Bb : Hid (Below w1.heap.size w1 wb) := hd (Ba.out.trans (bb.out.mono Ba.out.size))
      have z2 : wb.cell? ⟨Bp, 1, none⟩ = some (.slice ma code.length mc) := by rw [← hwb.out]; exact z1
      clear hwb z1 a6 y2 HBx
      have hI : Rd wb (some ⟨bm, code.length * 5, none⟩) mkI := rd_off (xs := pCells code2) (HMw.out wb Bb.out).1.rd (by rw [pC_len, hsl.out])
      have k0 := rd_at hI 0 _ rfl
      have k1 := rd_at hI 1 _ rfl
      have k2 := rd_at hI 2 _ rfl
      have k3 := rd_at hI 3 _ rfl
      have k4 := rd_at hI 4 _ rfl
      have k5 := rd_at hI 5 _ rfl
      have k6 := rd_at hI 6 _ rfl
      have k7 := rd_at hI 7 _ rfl
      have k8 := rd_at hI 8 _ rfl
      have k9 := rd_at hI 9 _ rfl
      simp only [Nat.add_zero] at k0
      rw [show code.length * 5 + 5 = (code.length + 1) * 5 by omega] at k5
      rw [show code.length * 5 + 6 = (code.length + 1) * 5 + 1 by omega] at k6
      rw [show code.length * 5 + 7 = (code.length + 1) * 5 + 2 by omega] at k7
      rw [show code.length * 5 + 8 = (code.length + 1) * 5 + 3 by omega] at k8
      rw [show code.length * 5 + 9 = (code.length + 1) * 5 + 4 by omega] at k9
      clear hI
      simp only [i77, i78] at k0 k1 k2 k3 k4 k5 k6 k7 k8 k9
      go_wp2_with fail
      go_roundg (gk - 1)
      case rel => exact ⟨i + 1, by go_num, by omega, Bb⟩
      case measure => omega
end Go.Proofs.YtmjokinagbpihaaDoor
