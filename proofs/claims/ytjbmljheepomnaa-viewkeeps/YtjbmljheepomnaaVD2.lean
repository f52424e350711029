/- What is seen: the walk of the document's Of. -/
import Derived.Test.YtjbmljheepomnaaVD1
import Derived.Test.YtjbmljheepomnaaVQ2
namespace Go.Proofs.Ytjbmljheepomnaa
open Go.RowKit

theorem pE.zero (w : World) : pE w zpL pt0 := ⟨_, _, _, rfl, DeR.nil, DeR.nil, DeR.nil⟩
theorem rE.zero (w : World) : rE w zrL pr0 := ⟨_, rfl, DeR.nil⟩
def ROfOut (w : World) (x : StX) (e : Ending) (w' : World) : Prop := ∃ cs, e = .returned (.agg cs.toArray) ∧ sE w' cs x ∧ Below w.heap.size w w'
set_option maxRecDepth 100000 in
set_option maxHeartbeats 16000000 in
theorem rof_any {w : World} {cc cs : List Value} {c : CfX} {x : StX} (hc : fE w cc c) (hx : sE w cs x) (hf1 : x.ps.length ≤ 1048576) (hf2 : x.qs.length ≤ 1048576) (a : Nat) (ha : a < 18446744073709551616) : Calls Try.prog 10 #[.agg cc.toArray, .agg cs.toArray, .int .u64 (a : Int)] w (ROfOut w (ofX c a x)) := by
  obtain ⟨tk, pp, pq⟩ := x
  obtain ⟨u, v, e1, k1, k2⟩ := hx
  simp only at e1 k1 k2 hf1 hf2
  subst e1
  have HFC := hd hc
  obtain ⟨v0, v1, v2, v3, v4, v5, v6, ecc, -, -⟩ := hc
  subst ecc
  obtain ⟨la, lc, rfl, -, hA⟩ := k1.at' (by decide)
  obtain ⟨lb, ld, rfl, -, hB⟩ := k2.at' (by decide)
  have HA := hd hA
  have HB := hd hB
  obtain ⟨Q0, hQ⟩ : ∃ Q, Hid (ROfOut w (ofX c a ⟨tk, pp, pq⟩) = Q) := ⟨_, rfl⟩
  rw [hQ.out]
  obtain ⟨np, hnp⟩ : ∃ n, Hid (pp.length = n) := ⟨_, rfl⟩
  obtain ⟨nq, hnq⟩ : ∃ n, Hid (pq.length = n) := ⟨_, rfl⟩
  rw [hnp.out] at HA hf1 ⊢
  rw [hnq.out] at HB hf2 ⊢
  have F1 := hd hf1
  have F2 := hd hf2
  clear hA hB k1 k2
  have HC7 : Hid (fE w [v0, v1, v2, v3, v4, v5, v6] c) := HFC
  go_enter Try.func10, Try.ntmps10
  go_upto_region 1 with fail
  obtain ⟨h1, h2, h3, h4, h5⟩ := three_al w (.cells #[v0, v1, v2, v3, v4, v5, v6] 26) (.cells #[.int .i64 tk, .slice la np lc, .slice lb nq ld] 30) (.cells #[.int .i64 0, .slice none 0 0, .slice none 0 0] 30)
  obtain ⟨W0, hW0⟩ : ∃ W, Hid (((w.alloc (.cells #[v0, v1, v2, v3, v4, v5, v6] 26)).alloc (.cells #[.int .i64 tk, .slice la np lc, .slice lb nq ld] 30)).alloc (.cells #[.int .i64 0, .slice none 0 0, .slice none 0 0] 30) = W) := ⟨_, rfl⟩
  rw [hW0.out] at h1 h2 h3 h4 h5 ⊢
  obtain ⟨B, hB⟩ : ∃ n, Hid (w.heap.size = n) := ⟨_, rfl⟩
  rw [hB.out] at h1 h2 h3 h4 ⊢
  obtain ⟨B1, hB1⟩ : ∃ n, Hid (B + 1 = n) := ⟨_, rfl⟩
  obtain ⟨B2, hB2⟩ : ∃ n, Hid (B + 2 = n) := ⟨_, rfl⟩
  (try rw [show B + 1 + 1 = B + 2 from rfl])
  rw [hB1.out] at h2 ⊢
  rw [hB2.out] at h3 ⊢
  have x0 := box_at1 h2 (j := 0) rfl
  simp at x0
  go_upto_region 2 with fail
  have hal := heap_alloc_new W0 (.cells #[.int .i64 tk, .slice none 0 0, .slice none 0 0] 30)
  have hbl := below_al W0 (.cells #[.int .i64 tk, .slice none 0 0, .slice none 0 0] 30)
  have hsz : (W0.alloc (.cells #[.int .i64 tk, .slice none 0 0, .slice none 0 0] 30)).heap.size = W0.heap.size + 1 := by simp
  obtain ⟨W1, hW1⟩ : ∃ W, Hid (W0.alloc (.cells #[.int .i64 tk, .slice none 0 0, .slice none 0 0] 30) = W) := ⟨_, rfl⟩
  rw [hW1.out] at hal hbl hsz ⊢
  obtain ⟨gs, hgs0⟩ : ∃ n, Hid (B + 3 = n) := ⟨_, rfl⟩
  rw [h4, hgs0.out] at hal hsz
  rw [hgs0.out]
  have hgs : Hid (W0.heap.size = gs) := hd (by rw [h4, hgs0.out])
  have HSZ := hd hsz
  have BG1 := hd hal
  have S0 : Hid (W0.heap.size = B + 3) := hd h4
  have BW1 : Hid (Below w.heap.size w W1) := hd (h5.trans (hbl.mono h5.size))
  have HX : Hid (∀ wr, Mod (fun k => k = gs) W1 wr → wr.heap[B]? = some (.cells #[v0, v1, v2, v3, v4, v5, v6] 26 (0, 0)) ∧ wr.heap[B1]? = some (.cells #[.int .i64 tk, .slice la np lc, .slice lb nq ld] 30 (0, 0)) ∧ wr.heap[B2]? = some (.cells #[.int .i64 0, .slice none 0 0, .slice none 0 0] 30 (0, 0)) ∧ Below w.heap.size w wr) := hd (fun wr h => by
    have s0 := S0.out
    have hb1 := hB1.out
    have hb2 := hB2.out
    have hg := hgs.out
    have hbw := BW1.out.size
    refine ⟨?_, ?_, ?_, ?_⟩
    · rw [h.block B (by omega) (by omega), hbl.block B (by omega)]; exact h1
    · rw [h.block B1 (by omega) (by omega), hbl.block B1 (by omega)]; exact h2
    · rw [h.block B2 (by omega) (by omega), hbl.block B2 (by omega)]; exact h3
    · exact BW1.out.trans (h.below (by omega) (fun k _ e => by have := hB.out; omega)))
  obtain ⟨xs, hxs⟩ : ∃ l, Hid (cutL (seesP c a) pt0 0 pp = l) := ⟨_, rfl⟩
  obtain ⟨ys, hys⟩ : ∃ l, Hid (cutL (seesQ c a) pr0 0 pq = l) := ⟨_, rfl⟩
  have HCX : Hid (∀ j, j < np → xs.getD j default = if seesP c a (j : Int) then pp.getD j default else pt0) := hd (fun j hj => by
    have := cut_at (seesP c a) pt0 default 0 pp j (by rw [hnp.out]; exact hj)
    rw [hxs.out, Nat.zero_add] at this
    exact this)
  have HCY : Hid (∀ j, j < nq → ys.getD j default = if seesQ c a (j : Int) then pq.getD j default else pr0) := hd (fun j hj => by
    have := cut_at (seesQ c a) pr0 default 0 pq j (by rw [hnq.out]; exact hj)
    rw [hys.out, Nat.zero_add] at this
    exact this)
  have G0 : Hid (∃ aP cP, W1.heap[gs]? = some (.cells #[.int .i64 tk, .slice aP 0 cP, .slice none 0 0] 30 (0, 0)) ∧ AG 43 6 (fun _ => pE w) W1.heap.size xs 0 aP cP W1 ∧ Mod (fun k => k = gs) W1 W1) := hd ⟨none, 0, BG1.out, AG.start, Mod.refl _ _⟩
  obtain ⟨bx, bs, br, bw⟩ := HX.out W1 (Mod.refl _ _)
  have x1 := box_at1 bs (j := 1) rfl
  simp at x1
  clear h1 h2 h3 h4 h5 hW0 hW1 x0 hal hbl hsz bx bs br bw
  go_wp2_with fail
  clear x1
  go_loopg [8] np (fun k v8 wr => ∃ (i : Nat), v8 = .int .i64 (i : Int) ∧ i + k = np ∧ Hid (∃ aA cA, wr.heap[gs]? = some (.cells #[.int .i64 tk, .slice aA i cA, .slice none 0 0] 30 (0, 0)) ∧ AG 43 6 (fun _ => pE w) W1.heap.size xs i aA cA wr ∧ Mod (fun k => k = gs) W1 wr))
  case atStart => exact ⟨0, rfl, by omega, G0⟩
  case round =>
    obtain ⟨i, rfl, hik, HG⟩ := hrel
    (try clear G0)
    obtain ⟨aA, cA, hbg, hAG, hmd⟩ := HG.out
    have HAG := hd hAG
    have HMD := hd hmd
    have HBG := hd hbg
    obtain ⟨bx, bs, br, bw⟩ := HX.out wr (hmd)
    by_cases hlt : i < np
    · have hlt' : (i : Int) < (np : Int) := by omega
      obtain ⟨ga, oa, csp, ea, -, e1, e2⟩ := HA.out i hlt
      subst ea
      have HCi := hd (HCX.out i hlt)
      obtain ⟨x, hx⟩ : ∃ x, Hid (pp.getD i default = x) := ⟨_, rfl⟩
      rw [hx.out] at e1 HCi
      have HE1 := hd e1
      have x1 := box_at1 bs (j := 1) rfl
      simp at x1
      obtain ⟨p0, p1, p2, p3, p4, p5⟩ := x
      obtain ⟨up, vp, zp, ep, dd1, dd2, dd3⟩ := id e1
      simp only at ep dd1 dd2 dd3
      obtain ⟨ua, uc, -, eu, -⟩ := dd1
      obtain ⟨va, vc, -, ev, -⟩ := dd2
      obtain ⟨za, zc, -, ez, -⟩ := dd3
      subst eu ev ez
      subst ep
      have HQ : Hid (∀ V, Below w.heap.size w V → V.cell? ⟨ga, oa + i * 6, none⟩ = some (.int .i64 p0) ∧ V.cell? ⟨ga, oa + i * 6 + 1, none⟩ = some (.slice ua p1.length uc) ∧ V.cell? ⟨ga, oa + i * 6 + 2, none⟩ = some (.int .i64 p2) ∧ V.cell? ⟨ga, oa + i * 6 + 3, none⟩ = some (.int .i64 p3) ∧ V.cell? ⟨ga, oa + i * 6 + 4, none⟩ = some (.slice va p4.length vc) ∧ V.cell? ⟨ga, oa + i * 6 + 5, none⟩ = some (.slice za p5.length zc)) := hd (fun V hb => ⟨e2 V hb 0 _ rfl, e2 V hb 1 _ rfl, e2 V hb 2 _ rfl, e2 V hb 3 _ rfl, e2 V hb 4 _ rfl, e2 V hb 5 _ rfl⟩)
      clear e1 e2 hAG hmd hbg
      go_upto_region 6 with fail
      have hal := heap_alloc_new wr (.cells #[.int .i64 0, .slice none 0 0, .int .i64 0, .int .i64 0, .slice none 0 0, .slice none 0 0] 43)
      have hbl := below_al wr (.cells #[.int .i64 0, .slice none 0 0, .int .i64 0, .int .i64 0, .slice none 0 0, .slice none 0 0] 43)
      obtain ⟨wa, hwa⟩ : ∃ W, Hid (wr.alloc (.cells #[.int .i64 0, .slice none 0 0, .int .i64 0, .int .i64 0, .slice none 0 0, .slice none 0 0] 43) = W) := ⟨_, rfl⟩
      rw [hwa.out] at hal hbl ⊢
      obtain ⟨X, hX⟩ : ∃ n, Hid (wr.heap.size = n) := ⟨_, rfl⟩
      rw [hX.out] at hal ⊢
      have HBL := hd hbl
      have HAL := hd hal
      have hbwa := bw.trans (hbl.mono bw.size)
      have hsp := rpart_any (HC7.out.below hbwa) (i : Int) a ha
      obtain ⟨r, hr⟩ : ∃ r, Hid (seesP c a (i : Int) = r) := ⟨_, rfl⟩
      rw [hr.out] at hsp HCi
      have hbxa := (hbl.block B (Array.getElem?_eq_some_iff.1 bx).1).trans bx
      have hbsa := (hbl.block B1 (Array.getElem?_eq_some_iff.1 bs).1).trans bs
      have y0_ := box_at1 hbxa (j := 0) rfl
      have y1_ := box_at1 hbxa (j := 1) rfl
      have y2_ := box_at1 hbxa (j := 2) rfl
      have y3_ := box_at1 hbxa (j := 3) rfl
      have y4_ := box_at1 hbxa (j := 4) rfl
      have y5_ := box_at1 hbxa (j := 5) rfl
      have y6_ := box_at1 hbxa (j := 6) rfl
      simp at y0_ y1_ y2_ y3_ y4_ y5_ y6_
      have HBWa := hd hbwa
      have HBS := hd hbsa
      clear bx bs br bw hal hbl hbxa hbwa hwa hr x1 hbsa
      go_upto_if 26 with (go_at_call 20; (with_reducible refine hsp.mono ?_); rintro e wb ⟨rfl, bb⟩; have BB := hd bb; clear bb)
      clear hsp y0_ y1_ y2_ y3_ y4_ y5_ y6_
      go_cut [] (fun wy => Hid (∃ s0 t1 t2 t3 s2 s3 t4 t5 t6 t7 t8 t9, wy.heap[X]? = some (.cells #[.int .i64 s0, .slice t1 t2 t3, .int .i64 s2, .int .i64 s3, .slice t4 t5 t6, .slice t7 t8 t9] 43 (0, 0)) ∧ pE w [.int .i64 s0, .slice t1 t2 t3, .int .i64 s2, .int .i64 s3, .slice t4 t5 t6, .slice t7 t8 t9] (xs.getD i default) ∧ Below wr.heap.size wr wy))
      case first =>
        have hbb := BB.out
        cases r
        case false =>
          have HSK : Hid (∃ s0 t1 t2 t3 s2 s3 t4 t5 t6 t7 t8 t9, wb.heap[X]? = some (.cells #[.int .i64 s0, .slice t1 t2 t3, .int .i64 s2, .int .i64 s3, .slice t4 t5 t6, .slice t7 t8 t9] 43 (0, 0)) ∧ pE w [.int .i64 s0, .slice t1 t2 t3, .int .i64 s2, .int .i64 s3, .slice t4 t5 t6, .slice t7 t8 t9] (xs.getD i default) ∧ Below wr.heap.size wr wb) := hd (by
            refine ⟨0, none, 0, 0, 0, 0, none, 0, 0, none, 0, 0, (hbb.block X (Array.getElem?_eq_some_iff.1 HAL.out).1).trans HAL.out, ?_, HBL.out.trans (hbb.mono HBL.out.size)⟩
            rw [HCi.out]
            exact pE.zero w)
          clear hbb
          go_wp2_with fail
          go_meet
          case rel => exact HSK
        case true =>
          have hXb := (hbb.block X (Array.getElem?_eq_some_iff.1 HAL.out).1).trans HAL.out
          have hSb := (hbb.block B1 (Array.getElem?_eq_some_iff.1 HBS.out).1).trans HBS.out
          have x1 := box_at1 hSb (j := 1) rfl
          simp at x1
          obtain ⟨q0_, q1_, q2_, q3_, q4_, q5_⟩ := HQ.out wb (HBWa.out.trans (hbb.mono HBWa.out.size))
          have zf : ∀ j, wb.frozen? ⟨X, j, none⟩ = false := fun j => box_free hXb j
          have z0_ := box_at1 hXb (j := 0) rfl
          have z1_ := box_at1 hXb (j := 1) rfl
          have z2_ := box_at1 hXb (j := 2) rfl
          have z3_ := box_at1 hXb (j := 3) rfl
          have z4_ := box_at1 hXb (j := 4) rfl
          have z5_ := box_at1 hXb (j := 5) rfl
          obtain ⟨g1, -, -⟩ := set6 hXb (.int .i64 p0) (.slice ua p1.length uc) (.int .i64 p2) (.int .i64 p3) (.slice va p4.length vc) (.slice za p5.length zc)
          have g4 := set6_below (A := wr.heap.size) (B := X) (HBL.out.trans (hbb.mono HBL.out.size)) (by have := hX.out; omega) (.int .i64 p0) (.slice ua p1.length uc) (.int .i64 p2) (.int .i64 p3) (.slice va p4.length vc) (.slice za p5.length zc)
          have HFN : Hid (let wy := ((((((wb.setCell ⟨X, 0, none⟩ (.int .i64 p0)).setCell ⟨X, 1, none⟩ (.slice ua p1.length uc)).setCell ⟨X, 2, none⟩ (.int .i64 p2)).setCell ⟨X, 3, none⟩ (.int .i64 p3)).setCell ⟨X, 4, none⟩ (.slice va p4.length vc)).setCell ⟨X, 5, none⟩ (.slice za p5.length zc)); ∃ s0 t1 t2 t3 s2 s3 t4 t5 t6 t7 t8 t9, wy.heap[X]? = some (.cells #[.int .i64 s0, .slice t1 t2 t3, .int .i64 s2, .int .i64 s3, .slice t4 t5 t6, .slice t7 t8 t9] 43 (0, 0)) ∧ pE w [.int .i64 s0, .slice t1 t2 t3, .int .i64 s2, .int .i64 s3, .slice t4 t5 t6, .slice t7 t8 t9] (xs.getD i default) ∧ Below wr.heap.size wr wy) := hd (by
            refine ⟨p0, ua, p1.length, uc, p2, p3, va, p4.length, vc, za, p5.length, zc, g1, ?_, g4⟩
            rw [HCi.out]
            exact HE1.out)
          clear g1 g4 hXb hSb hbb HQ
          go_wp2_with fail
          go_meet
          case rel => exact HFN
      case rest =>
        obtain ⟨s0, t1, t2, t3, s2, s3, t4, t5, t6, t7, t8, t9, hXc, hEc, hbc⟩ := hcut.out
        clear hcut HQ HE1 HCi HAL HBL HBWa HBS BB r
        have HEc := hd hEc
        have HBC := hd hbc
        have hgs2 : gs < wr.heap.size := (Array.getElem?_eq_some_iff.1 HBG.out).1
        have hgc := (hbc.block gs hgs2).trans HBG.out
        have HGC := hd hgc
        have n1 := box_at1 hgc (j := 1) rfl
        simp at n1
        have m0_ := box_at1 hXc (j := 0) rfl
        have m1_ := box_at1 hXc (j := 1) rfl
        have m2_ := box_at1 hXc (j := 2) rfl
        have m3_ := box_at1 hXc (j := 3) rfl
        have m4_ := box_at1 hXc (j := 4) rfl
        have m5_ := box_at1 hXc (j := 5) rfl
        obtain ⟨L0, -, -, hL0, -⟩ := HAG.out.ex
        obtain ⟨a2, c2, w2, ap1, -, -, -⟩ := push_big (T := 27) Try.underlying27 info_part rfl (by decide) (hL0.below hbc) (by have := F1.out; omega) [.int .i64 s0, .slice t1 t2 t3, .int .i64 s2, .int .i64 s3, .slice t4 t5 t6, .slice t7 t8 t9] rfl (by intro u hu; simp only [List.mem_cons, List.not_mem_nil, or_false] at hu; rcases hu with rfl | rfl | rfl | rfl | rfl | rfl <;> rfl)
        have HST : Hid (w2.heap[gs]? = wc.heap[gs]? ∧ (∀ W, W = w2.setCell ⟨gs, 1, none⟩ (.slice a2 (i + 1) c2) → ∃ aA cA, W.heap[gs]? = some (.cells #[.int .i64 tk, .slice aA (i + 1) cA, .slice none 0 0] 30 (0, 0)) ∧ AG 43 6 (fun _ => pE w) W1.heap.size xs (i + 1) aA cA W ∧ Mod (fun k => k = gs) W1 W)) := hd (by
          obtain ⟨a2', c2', w2', ap2, ar2, am2, af2⟩ := push_big (T := 27) Try.underlying27 info_part rfl (by decide) (hL0.below hbc) (by have := F1.out; omega) [.int .i64 s0, .slice t1 t2 t3, .int .i64 s2, .int .i64 s3, .slice t4 t5 t6, .slice t7 t8 t9] rfl (by intro u hu; simp only [List.mem_cons, List.not_mem_nil, or_false] at hu; rcases hu with rfl | rfl | rfl | rfl | rfl | rfl <;> rfl)
          have he := (ap1 0).symm.trans (ap2 0)
          simp only [Result.ok.injEq, Value.slice.injEq, true_and] at he
          obtain ⟨⟨e1, e2⟩, e3⟩ := he
          subst e1 e2 e3
          have hge := HAG.out.ge
          have hsz := HSZ.out
          have hms := HMD.out.size
          have hWg : gs < W1.heap.size := by omega
          have hna : blk aA ≠ some gs := fun e => by have := hge gs e; omega
          have hg2 : w2.heap[gs]? = wc.heap[gs]? := am2.block gs (by have := hbc.size; omega) hna
          refine ⟨hg2, ?_⟩
          rintro W rfl
          have hbp := box_put (hg2.trans HGC.out) 1 (.slice a2 (i + 1) c2)
          refine ⟨a2, c2, by simpa using hbp, ?_, ?_⟩
          · have hst := HAG.out.step (wb := wc) (w' := w2) (a' := a2) (c' := c2) hms hbc (us := [.int .i64 s0, .slice t1 t2 t3, .int .i64 s2, .int .i64 s3, .slice t4 t5 t6, .slice t7 t8 t9]) rfl (fun _ _ => HEc.out) (fun L r => by
              obtain ⟨a3, c3, w3, ap3, ar3, -, -⟩ := push_big (T := 27) Try.underlying27 info_part rfl (by decide) r (by have := F1.out; omega) [.int .i64 s0, .slice t1 t2 t3, .int .i64 s2, .int .i64 s3, .slice t4 t5 t6, .slice t7 t8 t9] rfl (by intro u hu; simp only [List.mem_cons, List.not_mem_nil, or_false] at hu; rcases hu with rfl | rfl | rfl | rfl | rfl | rfl <;> rfl)
              have he := (ap1 0).symm.trans (ap3 0)
              simp only [Result.ok.injEq, Value.slice.injEq, true_and] at he
              obtain ⟨⟨e1, e2⟩, e3⟩ := he
              subst e1 e2 e3
              exact ar3) am2 af2
            exact hst.kept (by rw [setCell_size]; exact Nat.le_refl _) (fun k k1 k2 => setCell_other _ _ _ _ _ (by omega))
          · refine ((HMD.out.after hbc).trans am2 (fun k hk => .inr (hge k hk))).setCell (.inl rfl) _)
        obtain ⟨hg2, HST2⟩ := HST.out
        have hg3 := hg2.trans HGC.out
        have o1 := box_at1 hg3 (j := 1) rfl
        have o2 := box_free hg3 1
        simp at o1
        have HST3 := hd HST2
        have hap := hd ap1
        clear HST HST2 hg2 hg3 ap1 hL0 hgc hXc hEc hbc HG HAG HEc HBC HGC HBG HMD hgs2
        go_wp2_with (at_builtin; refine wpList_append_run rfl _ _ _ rfl _ _ _ _ rfl rfl hap.out ?_; clear hap)
        go_roundg (gk - 1)
        case rel => exact ⟨i + 1, by go_num, by omega, hd (HST3.out _ rfl)⟩
        case measure => omega
    · obtain rfl : i = np := by omega
      obtain ⟨W2, hW2⟩ : ∃ W, Hid (wr = W) := ⟨_, rfl⟩
      rw [hW2.out] at HAG HMD HBG hAG hmd hbg bs ⊢
      obtain ⟨aP, haP⟩ : ∃ v, Hid (aA = v) := ⟨_, rfl⟩
      obtain ⟨cP, hcP⟩ : ∃ v, Hid (cA = v) := ⟨_, rfl⟩
      rw [haP.out] at HAG HBG
      rw [hcP.out] at HAG HBG
      have HAG1 := HAG
      have HW2 : Hid (gs < W2.heap.size) := hd ((Array.getElem?_eq_some_iff.1 HBG.out).1)
      have HW12 : Hid (W1.heap.size ≤ W2.heap.size) := hd HMD.out.size
      have HT : Hid (∀ v, Mod (fun k => k = gs) W2 v → Mod (fun k => k = gs) W1 v) := hd (fun v hv => hmd.trans hv (fun k e => .inl e))
      have G2 : Hid (∃ aA cA, W2.heap[gs]? = some (.cells #[.int .i64 tk, .slice aP i cP, .slice aA 0 cA] 30 (0, 0)) ∧ AG 49 15 (fun _ => rE w) W2.heap.size ys 0 aA cA W2 ∧ Mod (fun k => k = gs) W2 W2) := hd ⟨none, 0, HBG.out, AG.start, Mod.refl _ _⟩
      have x2 := box_at1 bs (j := 2) rfl
      have x1 := box_at1 bs (j := 1) rfl
      simp at x1 x2
      clear HG HAG HMD HBG hAG hmd hbg bx bs br bw hlt hik haP hcP BG1
      go_wp2_with fail
      clear x1 x2
      go_loopg [10] nq (fun k v10 wr => ∃ (i2 : Nat), v10 = .int .i64 (i2 : Int) ∧ i2 + k = nq ∧ Hid (∃ aA cA, wr.heap[gs]? = some (.cells #[.int .i64 tk, .slice aP i cP, .slice aA i2 cA] 30 (0, 0)) ∧ AG 49 15 (fun _ => rE w) W2.heap.size ys i2 aA cA wr ∧ Mod (fun k => k = gs) W2 wr))
      case atStart => exact ⟨0, rfl, by omega, G2⟩
      case round =>
        obtain ⟨i2, rfl, hik, HG⟩ := hrel
        (try clear G0)
        obtain ⟨aA, cA, hbg, hAG, hmd⟩ := HG.out
        have HAG := hd hAG
        have HMD := hd hmd
        have HBG := hd hbg
        obtain ⟨bx, bs, br, bw⟩ := HX.out wr (HT.out wr hmd)
        by_cases hlt : i2 < nq
        · have hlt' : (i2 : Int) < (nq : Int) := by omega
          obtain ⟨ga, oa, csp, ea, -, e1, e2⟩ := HB.out i2 hlt
          subst ea
          have HCi := hd (HCY.out i2 hlt)
          obtain ⟨x, hx⟩ : ∃ x, Hid (pq.getD i2 default = x) := ⟨_, rfl⟩
          rw [hx.out] at e1 HCi
          have HE1 := hd e1
          have x1 := box_at1 bs (j := 2) rfl
          simp at x1
          obtain ⟨ps, pp, ⟨p0, p1, p2, p3, p4, p5, p6, p7⟩, pc, pi, pf, pw, pl⟩ := x
          obtain ⟨vp, ep, dd1⟩ := id e1
          simp only at ep dd1
          obtain ⟨va, vc, -, ev, -⟩ := dd1
          subst ev
          subst ep
          have HQ : Hid (∀ V, Below w.heap.size w V → V.cell? ⟨ga, oa + i2 * 15, none⟩ = some (.int .i64 ps) ∧ V.cell? ⟨ga, oa + i2 * 15 + 1, none⟩ = some (.int .i64 pp) ∧ V.cell? ⟨ga, oa + i2 * 15 + 2, none⟩ = some (.int .i64 p0) ∧ V.cell? ⟨ga, oa + i2 * 15 + 3, none⟩ = some (.int .i64 p1) ∧ V.cell? ⟨ga, oa + i2 * 15 + 4, none⟩ = some (.int .i64 p2) ∧ V.cell? ⟨ga, oa + i2 * 15 + 5, none⟩ = some (.int .i64 p3) ∧ V.cell? ⟨ga, oa + i2 * 15 + 6, none⟩ = some (.int .i64 p4) ∧ V.cell? ⟨ga, oa + i2 * 15 + 7, none⟩ = some (.int .i64 p5) ∧ V.cell? ⟨ga, oa + i2 * 15 + 8, none⟩ = some (.int .i64 p6) ∧ V.cell? ⟨ga, oa + i2 * 15 + 9, none⟩ = some (.int .i64 p7) ∧ V.cell? ⟨ga, oa + i2 * 15 + 10, none⟩ = some (.int .i64 pc) ∧ V.cell? ⟨ga, oa + i2 * 15 + 11, none⟩ = some (.int .i64 pi) ∧ V.cell? ⟨ga, oa + i2 * 15 + 12, none⟩ = some (.bool pf) ∧ V.cell? ⟨ga, oa + i2 * 15 + 13, none⟩ = some (.int .i64 pw) ∧ V.cell? ⟨ga, oa + i2 * 15 + 14, none⟩ = some (.slice va pl.length vc)) := hd (fun V hb => ⟨e2 V hb 0 _ rfl, e2 V hb 1 _ rfl, e2 V hb 2 _ rfl, e2 V hb 3 _ rfl, e2 V hb 4 _ rfl, e2 V hb 5 _ rfl, e2 V hb 6 _ rfl, e2 V hb 7 _ rfl, e2 V hb 8 _ rfl, e2 V hb 9 _ rfl, e2 V hb 10 _ rfl, e2 V hb 11 _ rfl, e2 V hb 12 _ rfl, e2 V hb 13 _ rfl, e2 V hb 14 _ rfl⟩)
          clear e1 e2 hAG hmd hbg
          go_upto_region 13 with fail
          have hal := heap_alloc_new wr (.cells #[.int .i64 0, .int .i64 0, .int .i64 0, .int .i64 0, .int .i64 0, .int .i64 0, .int .i64 0, .int .i64 0, .int .i64 0, .int .i64 0, .int .i64 0, .int .i64 0, .bool false, .int .i64 0, .slice none 0 0] 49)
          have hbl := below_al wr (.cells #[.int .i64 0, .int .i64 0, .int .i64 0, .int .i64 0, .int .i64 0, .int .i64 0, .int .i64 0, .int .i64 0, .int .i64 0, .int .i64 0, .int .i64 0, .int .i64 0, .bool false, .int .i64 0, .slice none 0 0] 49)
          obtain ⟨wa, hwa⟩ : ∃ W, Hid (wr.alloc (.cells #[.int .i64 0, .int .i64 0, .int .i64 0, .int .i64 0, .int .i64 0, .int .i64 0, .int .i64 0, .int .i64 0, .int .i64 0, .int .i64 0, .int .i64 0, .int .i64 0, .bool false, .int .i64 0, .slice none 0 0] 49) = W) := ⟨_, rfl⟩
          rw [hwa.out] at hal hbl ⊢
          obtain ⟨X, hX⟩ : ∃ n, Hid (wr.heap.size = n) := ⟨_, rfl⟩
          rw [hX.out] at hal ⊢
          have HBL := hd hbl
          have HAL := hd hal
          have hbwa := bw.trans (hbl.mono bw.size)
          have hsp := rsees_any (HC7.out.below hbwa) (i2 : Int) a ha
          obtain ⟨r, hr⟩ : ∃ r, Hid (seesQ c a (i2 : Int) = r) := ⟨_, rfl⟩
          rw [hr.out] at hsp HCi
          have hbxa := (hbl.block B (Array.getElem?_eq_some_iff.1 bx).1).trans bx
          have hbsa := (hbl.block B1 (Array.getElem?_eq_some_iff.1 bs).1).trans bs
          have y0_ := box_at1 hbxa (j := 0) rfl
          have y1_ := box_at1 hbxa (j := 1) rfl
          have y2_ := box_at1 hbxa (j := 2) rfl
          have y3_ := box_at1 hbxa (j := 3) rfl
          have y4_ := box_at1 hbxa (j := 4) rfl
          have y5_ := box_at1 hbxa (j := 5) rfl
          have y6_ := box_at1 hbxa (j := 6) rfl
          simp at y0_ y1_ y2_ y3_ y4_ y5_ y6_
          have HBWa := hd hbwa
          have HBS := hd hbsa
          clear bx bs br bw hal hbl hbxa hbwa hwa hr x1 hbsa
          go_upto_if 49 with (go_at_call 12; (with_reducible refine hsp.mono ?_); rintro e wb ⟨rfl, bb⟩; have BB := hd bb; clear bb)
          clear hsp y0_ y1_ y2_ y3_ y4_ y5_ y6_
          go_cut [] (fun wy => Hid (∃ s0 s1 s2 s3 s4 s5 s6 s7 s8 s9 s10 s11 sb sw t1 t2 t3, wy.heap[X]? = some (.cells #[.int .i64 s0, .int .i64 s1, .int .i64 s2, .int .i64 s3, .int .i64 s4, .int .i64 s5, .int .i64 s6, .int .i64 s7, .int .i64 s8, .int .i64 s9, .int .i64 s10, .int .i64 s11, .bool sb, .int .i64 sw, .slice t1 t2 t3] 49 (0, 0)) ∧ rE w [.int .i64 s0, .int .i64 s1, .int .i64 s2, .int .i64 s3, .int .i64 s4, .int .i64 s5, .int .i64 s6, .int .i64 s7, .int .i64 s8, .int .i64 s9, .int .i64 s10, .int .i64 s11, .bool sb, .int .i64 sw, .slice t1 t2 t3] (ys.getD i2 default) ∧ Below wr.heap.size wr wy))
          case first =>
            have hbb := BB.out
            cases r
            case false =>
              have HSK : Hid (∃ s0 s1 s2 s3 s4 s5 s6 s7 s8 s9 s10 s11 sb sw t1 t2 t3, wb.heap[X]? = some (.cells #[.int .i64 s0, .int .i64 s1, .int .i64 s2, .int .i64 s3, .int .i64 s4, .int .i64 s5, .int .i64 s6, .int .i64 s7, .int .i64 s8, .int .i64 s9, .int .i64 s10, .int .i64 s11, .bool sb, .int .i64 sw, .slice t1 t2 t3] 49 (0, 0)) ∧ rE w [.int .i64 s0, .int .i64 s1, .int .i64 s2, .int .i64 s3, .int .i64 s4, .int .i64 s5, .int .i64 s6, .int .i64 s7, .int .i64 s8, .int .i64 s9, .int .i64 s10, .int .i64 s11, .bool sb, .int .i64 sw, .slice t1 t2 t3] (ys.getD i2 default) ∧ Below wr.heap.size wr wb) := hd (by
                refine ⟨0, 0, 0, 0, 0, 0, 0, 0, 0, 0, 0, 0, false, 0, none, 0, 0, (hbb.block X (Array.getElem?_eq_some_iff.1 HAL.out).1).trans HAL.out, ?_, HBL.out.trans (hbb.mono HBL.out.size)⟩
                rw [HCi.out]
                exact rE.zero w)
              clear hbb
              go_wp2_with fail
              go_meet
              case rel => exact HSK
            case true =>
              have hXb := (hbb.block X (Array.getElem?_eq_some_iff.1 HAL.out).1).trans HAL.out
              have hSb := (hbb.block B1 (Array.getElem?_eq_some_iff.1 HBS.out).1).trans HBS.out
              have x1 := box_at1 hSb (j := 2) rfl
              simp at x1
              obtain ⟨q0_, q1_, q2_, q3_, q4_, q5_, q6_, q7_, q8_, q9_, q10_, q11_, q12_, q13_, q14_⟩ := HQ.out wb (HBWa.out.trans (hbb.mono HBWa.out.size))
              have zf : ∀ j, wb.frozen? ⟨X, j, none⟩ = false := fun j => box_free hXb j
              have z0_ := box_at1 hXb (j := 0) rfl
              have z1_ := box_at1 hXb (j := 1) rfl
              have z2_ := box_at1 hXb (j := 2) rfl
              have z3_ := box_at1 hXb (j := 3) rfl
              have z4_ := box_at1 hXb (j := 4) rfl
              have z5_ := box_at1 hXb (j := 5) rfl
              have z6_ := box_at1 hXb (j := 6) rfl
              have z7_ := box_at1 hXb (j := 7) rfl
              have z8_ := box_at1 hXb (j := 8) rfl
              have z9_ := box_at1 hXb (j := 9) rfl
              have z10_ := box_at1 hXb (j := 10) rfl
              have z11_ := box_at1 hXb (j := 11) rfl
              have z12_ := box_at1 hXb (j := 12) rfl
              have z13_ := box_at1 hXb (j := 13) rfl
              have z14_ := box_at1 hXb (j := 14) rfl
              obtain ⟨g1, -, -⟩ := set15 hXb (.int .i64 ps) (.int .i64 pp) (.int .i64 p0) (.int .i64 p1) (.int .i64 p2) (.int .i64 p3) (.int .i64 p4) (.int .i64 p5) (.int .i64 p6) (.int .i64 p7) (.int .i64 pc) (.int .i64 pi) (.bool pf) (.int .i64 pw) (.slice va pl.length vc)
              have g4 := set15_below (A := wr.heap.size) (B := X) (HBL.out.trans (hbb.mono HBL.out.size)) (by have := hX.out; omega) (.int .i64 ps) (.int .i64 pp) (.int .i64 p0) (.int .i64 p1) (.int .i64 p2) (.int .i64 p3) (.int .i64 p4) (.int .i64 p5) (.int .i64 p6) (.int .i64 p7) (.int .i64 pc) (.int .i64 pi) (.bool pf) (.int .i64 pw) (.slice va pl.length vc)
              have HFN : Hid (let wy := (((((((((((((((wb.setCell ⟨X, 0, none⟩ (.int .i64 ps)).setCell ⟨X, 1, none⟩ (.int .i64 pp)).setCell ⟨X, 2, none⟩ (.int .i64 p0)).setCell ⟨X, 3, none⟩ (.int .i64 p1)).setCell ⟨X, 4, none⟩ (.int .i64 p2)).setCell ⟨X, 5, none⟩ (.int .i64 p3)).setCell ⟨X, 6, none⟩ (.int .i64 p4)).setCell ⟨X, 7, none⟩ (.int .i64 p5)).setCell ⟨X, 8, none⟩ (.int .i64 p6)).setCell ⟨X, 9, none⟩ (.int .i64 p7)).setCell ⟨X, 10, none⟩ (.int .i64 pc)).setCell ⟨X, 11, none⟩ (.int .i64 pi)).setCell ⟨X, 12, none⟩ (.bool pf)).setCell ⟨X, 13, none⟩ (.int .i64 pw)).setCell ⟨X, 14, none⟩ (.slice va pl.length vc)); ∃ s0 s1 s2 s3 s4 s5 s6 s7 s8 s9 s10 s11 sb sw t1 t2 t3, wy.heap[X]? = some (.cells #[.int .i64 s0, .int .i64 s1, .int .i64 s2, .int .i64 s3, .int .i64 s4, .int .i64 s5, .int .i64 s6, .int .i64 s7, .int .i64 s8, .int .i64 s9, .int .i64 s10, .int .i64 s11, .bool sb, .int .i64 sw, .slice t1 t2 t3] 49 (0, 0)) ∧ rE w [.int .i64 s0, .int .i64 s1, .int .i64 s2, .int .i64 s3, .int .i64 s4, .int .i64 s5, .int .i64 s6, .int .i64 s7, .int .i64 s8, .int .i64 s9, .int .i64 s10, .int .i64 s11, .bool sb, .int .i64 sw, .slice t1 t2 t3] (ys.getD i2 default) ∧ Below wr.heap.size wr wy) := hd (by
                refine ⟨ps, pp, p0, p1, p2, p3, p4, p5, p6, p7, pc, pi, pf, pw, va, pl.length, vc, g1, ?_, g4⟩
                rw [HCi.out]
                exact HE1.out)
              clear g1 g4 hXb hSb hbb HQ
              go_wp2_with fail
              go_meet
              case rel => exact HFN
          case rest =>
            obtain ⟨s0, s1, s2, s3, s4, s5, s6, s7, s8, s9, s10, s11, sb, sw, t1, t2, t3, hXc, hEc, hbc⟩ := hcut.out
            clear hcut HQ HE1 HCi HAL HBL HBWa HBS BB r
            have HEc := hd hEc
            have HBC := hd hbc
            have hgs2 : gs < wr.heap.size := (Array.getElem?_eq_some_iff.1 HBG.out).1
            have hgc := (hbc.block gs hgs2).trans HBG.out
            have HGC := hd hgc
            have n1 := box_at1 hgc (j := 2) rfl
            simp at n1
            have m0_ := box_at1 hXc (j := 0) rfl
            have m1_ := box_at1 hXc (j := 1) rfl
            have m2_ := box_at1 hXc (j := 2) rfl
            have m3_ := box_at1 hXc (j := 3) rfl
            have m4_ := box_at1 hXc (j := 4) rfl
            have m5_ := box_at1 hXc (j := 5) rfl
            have m6_ := box_at1 hXc (j := 6) rfl
            have m7_ := box_at1 hXc (j := 7) rfl
            have m8_ := box_at1 hXc (j := 8) rfl
            have m9_ := box_at1 hXc (j := 9) rfl
            have m10_ := box_at1 hXc (j := 10) rfl
            have m11_ := box_at1 hXc (j := 11) rfl
            have m12_ := box_at1 hXc (j := 12) rfl
            have m13_ := box_at1 hXc (j := 13) rfl
            have m14_ := box_at1 hXc (j := 14) rfl
            obtain ⟨L0, -, -, hL0, -⟩ := HAG.out.ex
            obtain ⟨a2, c2, w2, ap1, -, -, -⟩ := push_big (T := 28) Try.underlying28 info_process rfl (by decide) (hL0.below hbc) (by have := F2.out; omega) [.int .i64 s0, .int .i64 s1, .int .i64 s2, .int .i64 s3, .int .i64 s4, .int .i64 s5, .int .i64 s6, .int .i64 s7, .int .i64 s8, .int .i64 s9, .int .i64 s10, .int .i64 s11, .bool sb, .int .i64 sw, .slice t1 t2 t3] rfl (by intro u hu; simp only [List.mem_cons, List.not_mem_nil, or_false] at hu; rcases hu with rfl | rfl | rfl | rfl | rfl | rfl | rfl | rfl | rfl | rfl | rfl | rfl | rfl | rfl | rfl <;> rfl)
            have HST : Hid (w2.heap[gs]? = wc.heap[gs]? ∧ (∀ W, W = w2.setCell ⟨gs, 2, none⟩ (.slice a2 (i2 + 1) c2) → ∃ aA cA, W.heap[gs]? = some (.cells #[.int .i64 tk, .slice aP i cP, .slice aA (i2 + 1) cA] 30 (0, 0)) ∧ AG 49 15 (fun _ => rE w) W2.heap.size ys (i2 + 1) aA cA W ∧ Mod (fun k => k = gs) W2 W)) := hd (by
              obtain ⟨a2', c2', w2', ap2, ar2, am2, af2⟩ := push_big (T := 28) Try.underlying28 info_process rfl (by decide) (hL0.below hbc) (by have := F2.out; omega) [.int .i64 s0, .int .i64 s1, .int .i64 s2, .int .i64 s3, .int .i64 s4, .int .i64 s5, .int .i64 s6, .int .i64 s7, .int .i64 s8, .int .i64 s9, .int .i64 s10, .int .i64 s11, .bool sb, .int .i64 sw, .slice t1 t2 t3] rfl (by intro u hu; simp only [List.mem_cons, List.not_mem_nil, or_false] at hu; rcases hu with rfl | rfl | rfl | rfl | rfl | rfl | rfl | rfl | rfl | rfl | rfl | rfl | rfl | rfl | rfl <;> rfl)
              have he := (ap1 0).symm.trans (ap2 0)
              simp only [Result.ok.injEq, Value.slice.injEq, true_and] at he
              obtain ⟨⟨e1, e2⟩, e3⟩ := he
              subst e1 e2 e3
              have hge := HAG.out.ge
              have hsz := HSZ.out
              have hms := HMD.out.size
              have hWg : gs < W2.heap.size := by have := HW2.out; omega
              have hna : blk aA ≠ some gs := fun e => by have := hge gs e; omega
              have hg2 : w2.heap[gs]? = wc.heap[gs]? := am2.block gs (by have := hbc.size; omega) hna
              refine ⟨hg2, ?_⟩
              rintro W rfl
              have hbp := box_put (hg2.trans HGC.out) 2 (.slice a2 (i2 + 1) c2)
              refine ⟨a2, c2, by simpa using hbp, ?_, ?_⟩
              · have hst := HAG.out.step (wb := wc) (w' := w2) (a' := a2) (c' := c2) hms hbc (us := [.int .i64 s0, .int .i64 s1, .int .i64 s2, .int .i64 s3, .int .i64 s4, .int .i64 s5, .int .i64 s6, .int .i64 s7, .int .i64 s8, .int .i64 s9, .int .i64 s10, .int .i64 s11, .bool sb, .int .i64 sw, .slice t1 t2 t3]) rfl (fun _ _ => HEc.out) (fun L r => by
                  obtain ⟨a3, c3, w3, ap3, ar3, -, -⟩ := push_big (T := 28) Try.underlying28 info_process rfl (by decide) r (by have := F2.out; omega) [.int .i64 s0, .int .i64 s1, .int .i64 s2, .int .i64 s3, .int .i64 s4, .int .i64 s5, .int .i64 s6, .int .i64 s7, .int .i64 s8, .int .i64 s9, .int .i64 s10, .int .i64 s11, .bool sb, .int .i64 sw, .slice t1 t2 t3] rfl (by intro u hu; simp only [List.mem_cons, List.not_mem_nil, or_false] at hu; rcases hu with rfl | rfl | rfl | rfl | rfl | rfl | rfl | rfl | rfl | rfl | rfl | rfl | rfl | rfl | rfl <;> rfl)
                  have he := (ap1 0).symm.trans (ap3 0)
                  simp only [Result.ok.injEq, Value.slice.injEq, true_and] at he
                  obtain ⟨⟨e1, e2⟩, e3⟩ := he
                  subst e1 e2 e3
                  exact ar3) am2 af2
                exact hst.kept (by rw [setCell_size]; exact Nat.le_refl _) (fun k k1 k2 => setCell_other _ _ _ _ _ (by omega))
              · refine ((HMD.out.after hbc).trans am2 (fun k hk => .inr (hge k hk))).setCell (.inl rfl) _)
            obtain ⟨hg2, HST2⟩ := HST.out
            have hg3 := hg2.trans HGC.out
            have o1 := box_at1 hg3 (j := 2) rfl
            have o2 := box_free hg3 2
            simp at o1
            have HST3 := hd HST2
            have hap := hd ap1
            clear HST HST2 hg2 hg3 ap1 hL0 hgc hXc hEc hbc HG HAG HEc HBC HGC HBG HMD hgs2
            go_wp2_with (at_builtin; refine wpList_append_run rfl _ _ _ rfl _ _ _ _ rfl rfl hap.out ?_; clear hap)
            go_roundg (gk - 1)
            case rel => exact ⟨i2 + 1, by go_num, by omega, hd (HST3.out _ rfl)⟩
            case measure => omega
        · obtain rfl : i2 = nq := by omega
          obtain ⟨g1, g2, g3⟩ := set3 br (.int .i64 tk) (.slice aP i cP) (.slice aA i2 cA)
          have g4 := set3_below (A := w.heap.size) (B := B2) bw (by have := hB.out; have := hB2.out; omega) (.int .i64 tk) (.slice aP i cP) (.slice aA i2 cA)
          obtain ⟨FW, hFW⟩ : ∃ W, Hid (((wr.setCell ⟨B2, 0, none⟩ (.int .i64 tk)).setCell ⟨B2, 1, none⟩ (.slice aP i cP)).setCell ⟨B2, 2, none⟩ (.slice aA i2 cA) = W) := ⟨_, rfl⟩
          rw [hFW.out] at g1 g2 g3 g4
          have HZ := hd g1
          have HO : Hid (Q0 (.returned (.agg #[.int .i64 tk, .slice aP i cP, .slice aA i2 cA])) FW) := hd (by
            rw [← hQ.out]
            have hq1 : (ofX c a ⟨tk, pp, pq⟩).ps = xs := hxs.out
            have hq2 : (ofX c a ⟨tk, pp, pq⟩).qs = ys := hys.out
            have hq3 : (ofX c a ⟨tk, pp, pq⟩).tk = tk := rfl
            have hx1 : xs.length = i := by rw [← hxs.out, cut_len, hnp.out]
            have hy1 : ys.length = i2 := by rw [← hys.out, cut_len, hnq.out]
            have s0 := S0.out
            have hb2 := hB2.out
            have hsz := HSZ.out
            have hgg := hgs.out
            have h12 := HW12.out
            have f1 := F1.out
            have f2 := F2.out
            have hms := HMD.out.size
            refine ⟨_, rfl, ⟨.slice aP i cP, .slice aA i2 cA, by rw [hq3], ?_, ?_⟩, g4⟩
            · rw [hq1, ← hx1]
              have h1 := HAG1.out.kept (w' := FW) (by rw [g2]; exact hms) (fun k k1 k2 => by rw [g3 k (by omega)]; exact HMD.out.block k k2 (by omega))
              rw [← hx1] at h1
              have h2 := h1.end (by unfold BIG; omega)
              obtain ⟨qa, qc, qs, q1, q2, q3, q4, q5⟩ := h2
              exact ⟨qa, qc, qs, q1, q2, q3, q4, fun j hj => ⟨(q5 j hj).1, (q5 j hj).2.below g4⟩⟩
            · rw [hq2, ← hy1]
              have h1 := HAG.out.kept (w' := FW) (by rw [g2]; exact Nat.le_refl _) (fun k k1 k2 => g3 k (by omega))
              rw [← hy1] at h1
              have h2 := h1.end (by unfold BIG; omega)
              obtain ⟨qa, qc, qs, q1, q2, q3, q4, q5⟩ := h2
              exact ⟨qa, qc, qs, q1, q2, q3, q4, fun j hj => ⟨(q5 j hj).1, (q5 j hj).2.below g4⟩⟩)
          have x2 := box_at1 bs (j := 2) rfl
          simp at x2
          have v0_ := box_at1 hbg (j := 0) rfl
          have v1_ := box_at1 hbg (j := 1) rfl
          have v2_ := box_at1 hbg (j := 2) rfl
          have z0_ := box_at1 br (j := 0) rfl
          have z1_ := box_at1 br (j := 1) rfl
          have z2_ := box_at1 br (j := 2) rfl
          have zf : ∀ j, wr.frozen? ⟨B2, j, none⟩ = false := fun j => box_free br j
          clear g1 g2 g3 g4 HG HAG HMD HBG hAG hmd hbg bx bs br bw hlt hik HX HCX HCY HT HA HB F1 F2 HAG1
          go_wp2_with fail
          rw [hFW.out]
          refine bodyPost_ret (v := .agg #[.int .i64 tk, .slice aP i cP, .slice aA i2 cA]) ?_ rfl HO.out
          have y0_ := box_at1 HZ.out (j := 0) rfl
          have y1_ := box_at1 HZ.out (j := 1) rfl
          have y2_ := box_at1 HZ.out (j := 2) rfl
          clear HO HZ v0_ v1_ v2_ z0_ z1_ z2_ zf hFW
          simp at y0_ y1_ y2_
          simp [results, Try.results10, go_sem, y0_, y1_, y2_]
end Go.Proofs.Ytjbmljheepomnaa
