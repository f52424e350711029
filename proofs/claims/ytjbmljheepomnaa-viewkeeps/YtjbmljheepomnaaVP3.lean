/- A process in new memory: copiedProcess, the walk. -/
import Derived.Test.YtjbmljheepomnaaVP2
namespace Go.Proofs.Ytjbmljheepomnaa
open Go.RowKit

theorem setCell_cell {w : World} {g j : Nat} {v : Value} {p : Addr} (h : p.block ≠ g) : (w.setCell ⟨g, j, none⟩ v).cell? p = w.cell? p := World.cell?_of_block (w := w) (setCell_other _ _ _ _ _ h)
set_option maxRecDepth 100000 in
set_option maxHeartbeats 8000000 in
theorem copiedProcess_any {w : World} {cs : List Value} {x : PrX} (hx : rE w cs x) (hf : PrFew x) : Calls Try.prog 19 #[.agg cs.toArray] w (RoOut w x) := by
  obtain ⟨ps, pp, ⟨p0, p1, p2, p3, p4, p5, p6, p7⟩, pc, pi, pf, pw, pl⟩ := x
  obtain ⟨v, e1, k1⟩ := hx
  obtain ⟨f1, f4⟩ := hf
  simp only at e1 k1 f1 f4
  subst e1
  obtain ⟨la, lc, lu, rfl, lr, ll, l1, lB, lE'⟩ := k1.cells (lE.one w)
  obtain ⟨Q, hQ⟩ : ∃ Q, Hid (RoOut w ⟨ps, pp, ⟨p0, p1, p2, p3, p4, p5, p6, p7⟩, pc, pi, pf, pw, pl⟩ = Q) := ⟨_, rfl⟩
  rw [hQ.out]
  have HLr := hd lr
  have HLl := hd ll
  have HL1 := hd l1
  have HLE := hd lE'
  have HF4 := hd f4
  clear lr ll l1 lE' f4 k1
  obtain ⟨nl, hnl⟩ : ∃ n, Hid (pl.length = n) := ⟨_, rfl⟩
  rw [hnl.out] at HLl HLE f1 lB ⊢
  have F1 := hd f1
  clear lB
  go_enter Try.func19, Try.ntmps19
  go_upto_region 1 with fail
  obtain ⟨W0, hW0⟩ : ∃ W, Hid ((w.alloc (.cells #[.int .i64 ps, .int .i64 pp, .int .i64 p0, .int .i64 p1, .int .i64 p2, .int .i64 p3, .int .i64 p4, .int .i64 p5, .int .i64 p6, .int .i64 p7, .int .i64 pc, .int .i64 pi, .bool pf, .int .i64 pw, .slice la nl lc] 49)).alloc (.cells #[.int .i64 0, .int .i64 0, .int .i64 0, .int .i64 0, .int .i64 0, .int .i64 0, .int .i64 0, .int .i64 0, .int .i64 0, .int .i64 0, .int .i64 0, .int .i64 0, .bool false, .int .i64 0, .slice none 0 0] 49) = W) := ⟨_, rfl⟩
  obtain ⟨h1, h2⟩ := two_box (w := w) #[.int .i64 ps, .int .i64 pp, .int .i64 p0, .int .i64 p1, .int .i64 p2, .int .i64 p3, .int .i64 p4, .int .i64 p5, .int .i64 p6, .int .i64 p7, .int .i64 pc, .int .i64 pi, .bool pf, .int .i64 pw, .slice la nl lc] #[.int .i64 0, .int .i64 0, .int .i64 0, .int .i64 0, .int .i64 0, .int .i64 0, .int .i64 0, .int .i64 0, .int .i64 0, .int .i64 0, .int .i64 0, .int .i64 0, .bool false, .int .i64 0, .slice none 0 0] 49
  have hs0 : ((w.alloc (.cells #[.int .i64 ps, .int .i64 pp, .int .i64 p0, .int .i64 p1, .int .i64 p2, .int .i64 p3, .int .i64 p4, .int .i64 p5, .int .i64 p6, .int .i64 p7, .int .i64 pc, .int .i64 pi, .bool pf, .int .i64 pw, .slice la nl lc] 49)).alloc (.cells #[.int .i64 0, .int .i64 0, .int .i64 0, .int .i64 0, .int .i64 0, .int .i64 0, .int .i64 0, .int .i64 0, .int .i64 0, .int .i64 0, .int .i64 0, .int .i64 0, .bool false, .int .i64 0, .slice none 0 0] 49)).heap.size = w.heap.size + 2 := by simp
  rw [hW0.out] at h1 h2 hs0 ⊢
  obtain ⟨B, hB⟩ : ∃ n, Hid (w.heap.size = n) := ⟨_, rfl⟩
  rw [hB.out] at h1 hs0 ⊢
  have S0 := hd hs0
  have BW0 := hd h2
  have hbx := h1 W0 (below_same _)
  have BX0 := hd hbx.1
  have BR0 := hd hbx.2
  clear h1 h2 hW0 hs0 hbx
  have c1 := copied_lan (c := lc) (HLr.out.below BW0.out) HLl.out HL1.out F1.out
  have x1 := box_at1 BX0.out (j := 14) rfl
  simp at x1
  go_upto_region 2 with (go_at_call 31; (with_reducible refine c1.mono ?_); rintro e w1 ⟨a1, d1, rfl, r1, n1, b1⟩; have R1 := hd r1; have N1 := hd n1; have BW1 := hd b1; have BX1 := hd ((b1.block B (Array.getElem?_eq_some_iff.1 BX0.out).1).trans BX0.out); have y1 := box_at1 BX1.out (j := 14) rfl; have y2 := box_free BX1.out 14; clear r1 n1 b1; simp at y1)
  obtain ⟨W1, hW1⟩ : ∃ W, Hid (w1.setCell ⟨B, 14, none⟩ (.slice a1 nl d1) = W) := ⟨_, rfl⟩
  rw [hW1.out]
  have S1 : Hid (B + 2 ≤ W1.heap.size) := hd (by rw [← hW1.out, setCell_size, ← S0.out]; exact BW1.out.size)
  have BY1 : Hid (W1.heap[B]? = some (.cells #[.int .i64 ps, .int .i64 pp, .int .i64 p0, .int .i64 p1, .int .i64 p2, .int .i64 p3, .int .i64 p4, .int .i64 p5, .int .i64 p6, .int .i64 p7, .int .i64 pc, .int .i64 pi, .bool pf, .int .i64 pw, .slice a1 nl d1] 49 (0, 0))) := hd (by
    have := box_put BX1.out 14 (.slice a1 nl d1)
    rw [hW1.out] at this
    simpa using this)
  have BZ1 : Hid (Below w.heap.size w W1) := hd (by rw [← hW1.out]; exact below_set (BW0.out.trans (BW1.out.mono BW0.out.size)) (by rw [hB.out]; exact Nat.le_refl _))
  have BQ1 : Hid (∀ k, k ≠ B → k < W0.heap.size → W1.heap[k]? = W0.heap[k]?) := hd (fun k hk hk2 => by rw [← hW1.out, setCell_other _ _ _ _ _ hk]; exact BW1.out.block k hk2)
  have RR1 : Hid (Row W1 53 4 a1 nl d1 lu) := hd (R1.out.kept fun k hk => by rw [← hW1.out]; exact setCell_other _ _ _ _ _ (by have := N1.out k hk; rw [this, S0.out]; omega))
  have RN1 : Hid (∀ k, blk a1 = some k → B + 2 ≤ k ∧ k < W1.heap.size) := hd (fun k hk => ⟨by rw [N1.out k hk, S0.out]; exact Nat.le_refl _, RR1.out.lt k hk⟩)
  have BR1 : Hid (W1.heap[B + 1]? = some (.cells #[.int .i64 0, .int .i64 0, .int .i64 0, .int .i64 0, .int .i64 0, .int .i64 0, .int .i64 0, .int .i64 0, .int .i64 0, .int .i64 0, .int .i64 0, .int .i64 0, .bool false, .int .i64 0, .slice none 0 0] 49 (0, 0))) := hd (by
    have s0 := S0.out
    rw [BQ1.out _ (by omega) (by omega)]
    exact BR0.out)
  have P0 : Hid (LI W1 a1 nl d1 lu pl 0 W1) := hd ⟨⟨lu, fun _ => W1.heap.size, RR1.out, rfl, rfl, fun j hj => absurd hj (Nat.not_lt_zero j), fun j hj => absurd hj (Nat.not_lt_zero j), fun j _ _ => rfl⟩, Mod.refl _ _, fun k hk => (RN1.out k hk).2⟩
  have HX3 : Hid (∀ wr, Mod (fun k => blk a1 = some k) W1 wr → wr.heap[B]? = some (.cells #[.int .i64 ps, .int .i64 pp, .int .i64 p0, .int .i64 p1, .int .i64 p2, .int .i64 p3, .int .i64 p4, .int .i64 p5, .int .i64 p6, .int .i64 p7, .int .i64 pc, .int .i64 pi, .bool pf, .int .i64 pw, .slice a1 nl d1] 49 (0, 0)) ∧ wr.heap[B + 1]? = some (.cells #[.int .i64 0, .int .i64 0, .int .i64 0, .int .i64 0, .int .i64 0, .int .i64 0, .int .i64 0, .int .i64 0, .int .i64 0, .int .i64 0, .int .i64 0, .int .i64 0, .bool false, .int .i64 0, .slice none 0 0] 49 (0, 0)) ∧ Below w.heap.size w wr) := hd (fun wr h => by
    have s1 := S1.out
    have hb := hB.out
    refine ⟨?_, ?_, ?_⟩
    · rw [h.block B (by omega) (fun e => by have := RN1.out B e; omega)]; exact BY1.out
    · rw [h.block (B + 1) (by omega) (fun e => by have := RN1.out (B + 1) e; omega)]; exact BR1.out
    · exact BZ1.out.trans (h.below (by omega) (fun k _ e => by have := RN1.out k e; omega)))
  have HNB : Hid (∀ g : Nat, a1 = some ⟨g, 0, none⟩ → (B ≠ g ∧ g ≠ B) ∧ g < W1.heap.size) := hd (fun g e => by
    have := RN1.out g (by rw [e]; rfl)
    have s1 := S1.out
    omega)
  have HQn : Hid (lu.length = nl * 4) := HLl
  have x1 := box_at1 BY1.out (j := 14) rfl
  simp at x1
  clear hW1 R1 N1 BW1 BX1 BX0 y1 y2 c1 RR1 BQ1 BR0 BR1 BZ1 BW0 HLr HL1 F1 BY1
  go_wp2_with fail
  go_loopg [12] nl (fun k v12 wr => ∃ (i : Nat), v12 = .int .i64 (i : Int) ∧ i + k = nl ∧ Hid (LI W1 a1 nl d1 lu pl i wr))
  case atStart => exact ⟨0, rfl, by omega, P0⟩
  case round =>
    obtain ⟨i, rfl, hik, HP⟩ := hrel
    clear P0 x1
    by_cases hlt : i < nl
    · have hlt' : (i : Int) < (nl : Int) := by omega
      obtain ⟨vv, vw, eq', dv, dw⟩ := HLE.out i hlt
      obtain ⟨av, cv, uv, rfl, rv, lv, ov, bv, sv⟩ := dv.cells (iE.one w)
      obtain ⟨aw, cw, uw, rfl, rw', lw, ow, bw, sw⟩ := dw.cells (wE.one w)
      have HEQ := hd eq'
      have HRV := hd rv
      have HRW := hd rw'
      have HLV := hd lv
      have HLW := hd lw
      have HOV := hd ov
      have HOW := hd ow
      have HSV := hd sv
      have HSW := hd sw
      have HBV := hd bv
      have HBW' := hd bw
      clear rv rw' lv lw ov ow sv sw bv bw eq' dv dw
      obtain ⟨L, b, r1, -, -, -, -, r6⟩ := HP.out.ex
      obtain ⟨g, rfl, -⟩ := r1.cell (i * 4) (by omega)
      have hc := fun j (hj : j < 4) => (r1.cell (i * 4 + j) (by omega)).choose_spec
      have hcell : ∀ j u, j < 4 → (el 4 lu i)[j]? = some u → wr.cell? ⟨g, i * 4 + j, none⟩ = some u := fun j u hj hu => by
        obtain ⟨g', e', h'⟩ := r1.cell (i * 4 + j) (by omega)
        cases e'
        rw [h', ← el_at 4 L i j hj, r6 i (Nat.le_refl _) hlt]
        exact hu
      rw [HEQ.out] at hcell
      have q0 := hcell 0 _ (by decide) rfl
      have q1 := hcell 1 _ (by decide) rfl
      have q2 := hcell 2 _ (by decide) rfl
      have q3 := hcell 3 _ (by decide) rfl
      simp only [Nat.add_zero] at q0
      obtain ⟨⟨hn1, hn2⟩, hn3⟩ := HNB.out g rfl
      have hsw : W1.heap.size ≤ wr.heap.size := HP.out.md.size
      have hnG : g ≠ wr.heap.size ∧ wr.heap.size ≠ g := by omega
      have HPi := HP
      obtain ⟨N, hN⟩ : ∃ n, Hid ((pl.getD i default).vs.length = n) := ⟨_, rfl⟩
      obtain ⟨K, hK⟩ : ∃ n, Hid ((pl.getD i default).ws.length = n) := ⟨_, rfl⟩
      obtain ⟨tk, htk⟩ : ∃ n, Hid ((pl.getD i default).tk = n) := ⟨_, rfl⟩
      obtain ⟨dr, hdr⟩ : ∃ n, Hid ((pl.getD i default).dr = n) := ⟨_, rfl⟩
      rw [htk.out] at q2
      rw [hdr.out] at q3
      rw [hN.out] at q0
      rw [hK.out] at q1
      clear r1 r6 hc hcell
      go_upto_region 5 with fail
      have hal := heap_alloc_new wr (.cells #[.slice av N cv, .slice aw K cw, .int .i64 tk, .int .i64 dr] 53)
      have hbl := below_al wr (.cells #[.slice av N cv, .slice aw K cw, .int .i64 tk, .int .i64 dr] 53)
      obtain ⟨wa, hwa⟩ : ∃ W, Hid (wr.alloc (.cells #[.slice av N cv, .slice aw K cw, .int .i64 tk, .int .i64 dr] 53) = W) := ⟨_, rfl⟩
      rw [hwa.out] at hal hbl ⊢
      obtain ⟨G, hG⟩ : ∃ n, Hid (wr.heap.size = n) := ⟨_, rfl⟩
      rw [hG.out] at hal hnG ⊢
      have HAL := hd hal
      have HBL := hd hbl
      obtain ⟨bx, br, bwb⟩ := HX3.out wa (HPi.out.below hbl).2
      have f14 := box_at1 bx (j := 14) rfl
      simp at f14
      have g0 := box_at1 hal (j := 0) rfl
      simp at g0
      have H5 : Hid (∀ V, Below wa.heap.size wa V → V.cell? ⟨B, 14, none⟩ = some (.slice (some ⟨g, 0, none⟩) nl d1) ∧ V.heap[G]? = some (.cells #[.slice av N cv, .slice aw K cw, .int .i64 tk, .int .i64 dr] 53 (0, 0))) := hd (fun V hb => ⟨(hb.cell (World.block_lt_of_cell? wa _ f14)).trans f14, (hb.block G (Array.getElem?_eq_some_iff.1 HAL.out).1).trans HAL.out⟩)
      have hst := copied_i64 (c := cv) (n := N) (HRV.out.below (bwb.trans ((bel_drew wa).mono bwb.size))) (by rw [← hN.out]; exact HLV.out) HOV.out (by rw [← hN.out]; exact (HF4.out i).1)
      have HS : Hid (∀ v w1, CpOut wa.drew 2 1 N uv (.returned v) w1 → LJ W1 (some ⟨g, 0, none⟩) nl d1 lu pl i v (w1.setCell ⟨g, i * 4, none⟩ v) ∧ (∃ u, w1.cell? ⟨g, i * 4, none⟩ = some u) ∧ w1.frozen? ⟨g, i * 4, none⟩ = false) := hd (fun v w1 hc => by
        obtain ⟨g', e', h1, h2, h3⟩ := HPi.out.step hlt HBL.out hc hN.out.symm (by rw [← hN.out]; exact HBV.out) (by rw [← hN.out]; exact HSV.out) HEQ.out
        cases e'
        exact ⟨h1, h2, h3⟩)
      clear q0 q1 q2 q3 hal hbl bx br bwb hwa HP
      go_cut [] (fun wy => Hid (∃ v, LJ W1 (some ⟨g, 0, none⟩) nl d1 lu pl i v wy) ∧ Hid (wy.cell? ⟨B, 14, none⟩ = some (.slice (some ⟨g, 0, none⟩) nl d1) ∧ wy.cell? ⟨G, 1, none⟩ = some (.slice aw K cw)))
      case first =>
        go_region_held3 (fun w' => w'.cell? ⟨B, 14, none⟩ = some (.slice (some ⟨g, 0, none⟩) nl d1) ∧ w'.cell? ⟨G, 0, none⟩ = some (.slice av N cv)) (go_keep)
          (first
            | (go_at_call 32; (with_reducible refine hst.mono ?_); rintro e w2 ⟨a9, c9, rfl, r9, n9, b9⟩; obtain ⟨hP2, ⟨u2, hu2⟩, hf2⟩ := HS.out _ w2 ⟨a9, c9, rfl, r9, n9, b9⟩; have hP2' := hd hP2; obtain ⟨g5, g6⟩ := H5.out w2 (bel_dr b9); have g7 := box_at1 g6 (j := 0) rfl; have g8 := box_at1 g6 (j := 1) rfl; simp at g7 g8; clear hP2 r9 n9 g6; replace b9 := hd b9))
        all_goals (
          go_wp2_with fail
          go_meet
          case rel => exact ⟨hd ⟨_, hP2'.out⟩, hd ⟨(setCell_cell hn1).trans g5, (setCell_cell hnG.2).trans g8⟩⟩)
      case rest =>
        obtain ⟨HJ, HCC⟩ := hcut
        clear HS hst g0 f14 H5 HAL HBL
        obtain ⟨v1, hJ⟩ := HJ.out
        obtain ⟨m14, m1⟩ := HCC.out
        obtain ⟨-, -, bwc⟩ := HX3.out wc hJ.md
        have hst := copied_wai (c := cw) (n := K) (HRW.out.below (bwc.trans ((bel_drew wc).mono bwc.size))) (by rw [← hK.out]; exact HLW.out) HOW.out (by rw [← hK.out]; exact (HF4.out i).2)
        have HS : Hid (∀ v w1, CpOut wc.drew 55 2 K uw (.returned v) w1 → LI W1 (some ⟨g, 0, none⟩) nl d1 lu pl (i + 1) (w1.setCell ⟨g, i * 4 + 1, none⟩ v) ∧ (∃ u, w1.cell? ⟨g, i * 4 + 1, none⟩ = some u) ∧ w1.frozen? ⟨g, i * 4 + 1, none⟩ = false) := hd (fun v w1 hc => by
          obtain ⟨g', e', h1, h2, h3⟩ := hJ.step hlt hc hK.out.symm (by rw [← hK.out]; exact HBW'.out) (by rw [← hK.out]; exact HSW.out)
          cases e'
          exact ⟨h1, h2, h3⟩)
        have H5 : Hid (∀ V, Below wc.heap.size wc V → V.cell? ⟨B, 14, none⟩ = some (.slice (some ⟨g, 0, none⟩) nl d1) ∧ V.cell? ⟨G, 1, none⟩ = some (.slice aw K cw)) := hd (fun V hb => ⟨(hb.cell (World.block_lt_of_cell? wc _ m14)).trans m14, (hb.cell (World.block_lt_of_cell? wc _ m1)).trans m1⟩)
        clear bwc hJ HJ HCC
        go_upto_region 6 with fail
        go_region_held3 (fun w' => w'.cell? ⟨B, 14, none⟩ = some (.slice (some ⟨g, 0, none⟩) nl d1) ∧ w'.cell? ⟨G, 1, none⟩ = some (.slice aw K cw)) (go_keep)
          (first
            | (go_at_call 33; (with_reducible refine hst.mono ?_); rintro e w2 ⟨a9, c9, rfl, r9, n9, b9⟩; obtain ⟨hP2, ⟨u2, hu2⟩, hf2⟩ := HS.out _ w2 ⟨a9, c9, rfl, r9, n9, b9⟩; have hP2' := hd hP2; obtain ⟨g5, g6⟩ := H5.out w2 (bel_dr b9); clear hP2 r9 n9; replace b9 := hd b9))
        all_goals (
          go_wp2_with fail
          go_roundg (gk - 1)
          case rel => exact ⟨i + 1, by go_num, by omega, hP2'⟩
          case measure => omega)
    · obtain rfl : i = nl := by omega
      obtain ⟨bx, br, bw⟩ := HX3.out wr HP.out.md
      obtain ⟨g1, g2, g3⟩ := set15 br (.int .i64 ps) (.int .i64 pp) (.int .i64 p0) (.int .i64 p1) (.int .i64 p2) (.int .i64 p3) (.int .i64 p4) (.int .i64 p5) (.int .i64 p6) (.int .i64 p7) (.int .i64 pc) (.int .i64 pi) (.bool pf) (.int .i64 pw) (.slice a1 i d1)
      have g4 := set15_below (A := w.heap.size) (B := B + 1) bw (by have := hB.out; omega) (.int .i64 ps) (.int .i64 pp) (.int .i64 p0) (.int .i64 p1) (.int .i64 p2) (.int .i64 p3) (.int .i64 p4) (.int .i64 p5) (.int .i64 p6) (.int .i64 p7) (.int .i64 pc) (.int .i64 pi) (.bool pf) (.int .i64 pw) (.slice a1 i d1)
      obtain ⟨FW, hFW⟩ : ∃ W, Hid ((((((((((((((((wr.setCell ⟨B + 1, 0, none⟩ (.int .i64 ps)).setCell ⟨B + 1, 1, none⟩ (.int .i64 pp)).setCell ⟨B + 1, 2, none⟩ (.int .i64 p0)).setCell ⟨B + 1, 3, none⟩ (.int .i64 p1)).setCell ⟨B + 1, 4, none⟩ (.int .i64 p2)).setCell ⟨B + 1, 5, none⟩ (.int .i64 p3)).setCell ⟨B + 1, 6, none⟩ (.int .i64 p4)).setCell ⟨B + 1, 7, none⟩ (.int .i64 p5)).setCell ⟨B + 1, 8, none⟩ (.int .i64 p6)).setCell ⟨B + 1, 9, none⟩ (.int .i64 p7)).setCell ⟨B + 1, 10, none⟩ (.int .i64 pc)).setCell ⟨B + 1, 11, none⟩ (.int .i64 pi)).setCell ⟨B + 1, 12, none⟩ (.bool pf)).setCell ⟨B + 1, 13, none⟩ (.int .i64 pw)).setCell ⟨B + 1, 14, none⟩ (.slice a1 i d1)) = W) := ⟨_, rfl⟩
      rw [hFW.out] at g1 g2 g3 g4
      have HZ := hd g1
      have HO : Hid (Q (.returned (.agg #[.int .i64 ps, .int .i64 pp, .int .i64 p0, .int .i64 p1, .int .i64 p2, .int .i64 p3, .int .i64 p4, .int .i64 p5, .int .i64 p6, .int .i64 p7, .int .i64 pc, .int .i64 pi, .bool pf, .int .i64 pw, .slice a1 i d1])) FW) := hd (by
        rw [← hQ.out]
        have s1 := S1.out
        have hb := hB.out
        have hm := HP.out.md
        obtain ⟨L, b, r1, r2, r3, r4, r5, r6⟩ := HP.out.ex
        have hml := mono_le i r4
        have hms := hm.size
        have hq1 := hnl.out
        refine ⟨_, rfl, ⟨_, rfl, ?_⟩, g4⟩
        refine ⟨a1, d1, L, b, by rw [hq1], ?_, fun k hk => by have := RN1.out k hk; omega, by omega, fun j hj => r4 j (by rw [← hq1]; exact hj), by rw [hq1, r3, g2]; exact Nat.le_refl _, by rw [hq1]; unfold BIG; omega, fun j hj => ?_⟩
        · rw [hq1]
          exact r1.kept fun k hk => g3 k (by have := RN1.out k hk; omega)
        · replace hj : j < i := by rw [← hq1]; exact hj
          exact (r5 j hj).kept fun k l1 l2 => g3 k (by have := (hml j (by omega)).1; omega))
      clear g1 g2 g3 g4
      have v0_ := box_at1 bx (j := 0) rfl
      have z0_ := box_at1 br (j := 0) rfl
      have v1_ := box_at1 bx (j := 1) rfl
      have z1_ := box_at1 br (j := 1) rfl
      have v2_ := box_at1 bx (j := 2) rfl
      have z2_ := box_at1 br (j := 2) rfl
      have v3_ := box_at1 bx (j := 3) rfl
      have z3_ := box_at1 br (j := 3) rfl
      have v4_ := box_at1 bx (j := 4) rfl
      have z4_ := box_at1 br (j := 4) rfl
      have v5_ := box_at1 bx (j := 5) rfl
      have z5_ := box_at1 br (j := 5) rfl
      have v6_ := box_at1 bx (j := 6) rfl
      have z6_ := box_at1 br (j := 6) rfl
      have v7_ := box_at1 bx (j := 7) rfl
      have z7_ := box_at1 br (j := 7) rfl
      have v8_ := box_at1 bx (j := 8) rfl
      have z8_ := box_at1 br (j := 8) rfl
      have v9_ := box_at1 bx (j := 9) rfl
      have z9_ := box_at1 br (j := 9) rfl
      have v10_ := box_at1 bx (j := 10) rfl
      have z10_ := box_at1 br (j := 10) rfl
      have v11_ := box_at1 bx (j := 11) rfl
      have z11_ := box_at1 br (j := 11) rfl
      have v12_ := box_at1 bx (j := 12) rfl
      have z12_ := box_at1 br (j := 12) rfl
      have v13_ := box_at1 bx (j := 13) rfl
      have z13_ := box_at1 br (j := 13) rfl
      have v14_ := box_at1 bx (j := 14) rfl
      have z14_ := box_at1 br (j := 14) rfl
      have zf : ∀ j, wr.frozen? ⟨B + 1, j, none⟩ = false := fun j => box_free br j
      clear HP bx br bw hlt hik HLE HF4 HX3 HNB RN1 HLl HQn hQ hB hnl S1
      go_wp2_with fail
      rw [hFW.out]
      refine bodyPost_ret (v := .agg #[.int .i64 ps, .int .i64 pp, .int .i64 p0, .int .i64 p1, .int .i64 p2, .int .i64 p3, .int .i64 p4, .int .i64 p5, .int .i64 p6, .int .i64 p7, .int .i64 pc, .int .i64 pi, .bool pf, .int .i64 pw, .slice a1 i d1]) ?_ rfl HO.out
      have y0_ := box_at1 HZ.out (j := 0) rfl
      have y1_ := box_at1 HZ.out (j := 1) rfl
      have y2_ := box_at1 HZ.out (j := 2) rfl
      have y3_ := box_at1 HZ.out (j := 3) rfl
      have y4_ := box_at1 HZ.out (j := 4) rfl
      have y5_ := box_at1 HZ.out (j := 5) rfl
      have y6_ := box_at1 HZ.out (j := 6) rfl
      have y7_ := box_at1 HZ.out (j := 7) rfl
      have y8_ := box_at1 HZ.out (j := 8) rfl
      have y9_ := box_at1 HZ.out (j := 9) rfl
      have y10_ := box_at1 HZ.out (j := 10) rfl
      have y11_ := box_at1 HZ.out (j := 11) rfl
      have y12_ := box_at1 HZ.out (j := 12) rfl
      have y13_ := box_at1 HZ.out (j := 13) rfl
      have y14_ := box_at1 HZ.out (j := 14) rfl
      clear HO HZ v0_ z0_ v1_ z1_ v2_ z2_ v3_ z3_ v4_ z4_ v5_ z5_ v6_ z6_ v7_ z7_ v8_ z8_ v9_ z9_ v10_ z10_ v11_ z11_ v12_ z12_ v13_ z13_ v14_ z14_ zf hFW
      simp at y0_ y1_ y2_ y3_ y4_ y5_ y6_ y7_ y8_ y9_ y10_ y11_ y12_ y13_ y14_
      simp [results, Try.results19, go_sem, y0_, y1_, y2_, y3_, y4_, y5_, y6_, y7_, y8_, y9_, y10_, y11_, y12_, y13_, y14_]
end Go.Proofs.Ytjbmljheepomnaa
