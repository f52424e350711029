/- The document: two states. -/
import Derived.Test.YtjbmljheepomnaaVRp
import Derived.Test.YtjbmljheepomnaaVRr
namespace Go.Proofs.Ytjbmljheepomnaa
open Go.RowKit

set_option maxRecDepth 100000 in
set_option maxHeartbeats 8000000 in
theorem rsame_any {w : World} {ca cb : List Value} {x y : StX} (h1 : sE w ca x) (h2 : sE w cb y) :
    Calls Try.prog 8 #[.agg ca.toArray, .agg cb.toArray] w fun e w' => e = .returned (.bool (dec (x = y))) ∧ Below w.heap.size w w' := by
  obtain ⟨pt, pp, pq⟩ := x
  obtain ⟨u, v, e1, k1, k2⟩ := h1
  simp only at e1 k1 k2
  subst e1
  obtain ⟨qt, qp, qq⟩ := y
  obtain ⟨u2, v2, e2, m1, m2⟩ := h2
  simp only at e2 m1 m2
  subst e2
  obtain ⟨R, hR⟩ : ∃ R, Hid (R = (dec (pt = qt) && (dec (pp = qp) && dec (pq = qq)))) := ⟨_, rfl⟩
  have hRR : dec ((StX.mk pt pp pq) = StX.mk qt qp qq) = R := by
    rw [hR.out, ← dec_and, ← dec_and]
    refine dec_iff ?_
    simp only [StX.mk.injEq]
    all_goals (constructor <;> (intro h; simp only [h, and_self]))
  rw [hRR]
  clear hRR
  obtain ⟨la0, lc0, ea0, hla0, hA0⟩ := k1.at' (by decide)
  obtain ⟨lb0, ld0, eb0, hlb0, hB0⟩ := m1.at' (by decide)
  subst ea0 eb0
  have HA0 := hd hA0
  have HB0 := hd hB0
  obtain ⟨rl0, hrl0⟩ : ∃ r, Hid (dec (pp = qp) = r) := ⟨_, rfl⟩
  rw [hrl0.out] at hR
  have HY0 := hd (fun hl => lst_yes (xs := pp) (ys := qp) hl hrl0.out)
  have HN0 := hd (lst_no (n := pp.length) hrl0.out)
  have HZ0 : Hid (¬ pp.length = qp.length → rl0 = false) := hd (fun h => by rw [← hrl0.out]; exact dec_no (fun e => h (by rw [e])))
  unfold BIG at hla0 hlb0
  obtain ⟨n0, hn0⟩ : ∃ n, Hid (pp.length = n) := ⟨_, rfl⟩
  obtain ⟨k0, hk0⟩ : ∃ n, Hid (qp.length = n) := ⟨_, rfl⟩
  rw [hn0.out] at hla0 HA0 HY0 HN0 HZ0 ⊢
  rw [hk0.out] at hlb0 HB0 HY0 HZ0 ⊢
  clear k1 m1 hA0 hB0 hrl0 hn0 hk0
  obtain ⟨la1, lc1, ea1, hla1, hA1⟩ := k2.at' (by decide)
  obtain ⟨lb1, ld1, eb1, hlb1, hB1⟩ := m2.at' (by decide)
  subst ea1 eb1
  have HA1 := hd hA1
  have HB1 := hd hB1
  obtain ⟨rl1, hrl1⟩ : ∃ r, Hid (dec (pq = qq) = r) := ⟨_, rfl⟩
  rw [hrl1.out] at hR
  have HY1 := hd (fun hl => lst_yes (xs := pq) (ys := qq) hl hrl1.out)
  have HN1 := hd (lst_no (n := pq.length) hrl1.out)
  have HZ1 : Hid (¬ pq.length = qq.length → rl1 = false) := hd (fun h => by rw [← hrl1.out]; exact dec_no (fun e => h (by rw [e])))
  unfold BIG at hla1 hlb1
  obtain ⟨n1, hn1⟩ : ∃ n, Hid (pq.length = n) := ⟨_, rfl⟩
  obtain ⟨k1, hk1⟩ : ∃ n, Hid (qq.length = n) := ⟨_, rfl⟩
  rw [hn1.out] at hla1 HA1 HY1 HN1 HZ1 ⊢
  rw [hk1.out] at hlb1 HB1 HY1 HZ1 ⊢
  clear k2 m2 hA1 hB1 hrl1 hn1 hk1
  go_enter Try.func8, Try.ntmps8
  go_upto_region 1 with fail
  obtain ⟨h1, h2⟩ := two_box (w := w) #[.int .i64 pt, .slice la0 n0 lc0, .slice la1 n1 lc1] #[.int .i64 qt, .slice lb0 k0 ld0, .slice lb1 k1 ld1] 30
  obtain ⟨W0, hW0⟩ : ∃ W, Hid ((w.alloc (.cells #[.int .i64 pt, .slice la0 n0 lc0, .slice la1 n1 lc1] 30)).alloc (.cells #[.int .i64 qt, .slice lb0 k0 ld0, .slice lb1 k1 ld1] 30) = W) := ⟨_, rfl⟩
  rw [hW0.out] at h1 h2 ⊢
  obtain ⟨B, hB⟩ : ∃ n, Hid (w.heap.size = n) := ⟨_, rfl⟩
  obtain ⟨B1, hB1⟩ : ∃ n, Hid (B + 1 = n) := ⟨_, rfl⟩
  rw [hB.out, hB1.out] at h1
  rw [hB.out, hB1.out]
  have HBW := hd h2
  have HD : Hid (∀ V, Below W0.heap.size W0 V → V.cell? ⟨B, 1, none⟩ = some (.slice la0 n0 lc0) ∧ V.cell? ⟨B, 2, none⟩ = some (.slice la1 n1 lc1) ∧ V.cell? ⟨B1, 1, none⟩ = some (.slice lb0 k0 ld0) ∧ V.cell? ⟨B1, 2, none⟩ = some (.slice lb1 k1 ld1)) := hd (fun V hb => by
    obtain ⟨e1, e2⟩ := h1 V hb
    exact ⟨box_at e1 rfl, box_at e1 rfl, box_at e2 rfl, box_at e2 rfl⟩)
  have HC : Hid (∀ V, Below W0.heap.size W0 V → Below w.heap.size w V) := hd (fun V hb => HBW.out.trans (hb.mono HBW.out.size))
  obtain ⟨bx1, bx2⟩ := h1 W0 (Below.refl _ _)
  have a0 : W0.cell? ⟨B, 0, none⟩ = some (.int .i64 pt) := box_at bx1 rfl
  have b0 : W0.cell? ⟨B1, 0, none⟩ = some (.int .i64 qt) := box_at bx2 rfl
  have a1 : W0.cell? ⟨B, 1, none⟩ = some (.slice la0 n0 lc0) := box_at bx1 rfl
  have b1 : W0.cell? ⟨B1, 1, none⟩ = some (.slice lb0 k0 ld0) := box_at bx2 rfl
  have a2 : W0.cell? ⟨B, 2, none⟩ = some (.slice la1 n1 lc1) := box_at bx1 rfl
  have b2 : W0.cell? ⟨B1, 2, none⟩ = some (.slice lb1 k1 ld1) := box_at bx2 rfl
  clear h1 h2 hW0 bx1 bx2
  by_cases hq0 : pt = qt
  case neg =>
    have g0 : (pt == qt) = false := by simpa using hq0
    have n0x := dec_no hq0
    rw [n0x] at hR
    obtain rfl : R = false := by rw [hR.out]; simp
    clear hR n0x
    go_wp2_with fail
    go_ret
    exact ⟨rfl, HC.out _ (Below.refl _ _)⟩
  subst hq0
  by_cases hq1 : n0 = k0
  case neg =>
    have g1 : ((n0 : Int) == (k0 : Int)) = false := by simp; omega
    have n1x := HZ0.out hq1
    rw [n1x] at hR
    obtain rfl : R = false := by rw [hR.out]; simp
    clear hR n1x
    go_wp2_with fail
    go_ret
    exact ⟨rfl, HC.out _ (Below.refl _ _)⟩
  subst hq1
  by_cases hq2 : n1 = k1
  case neg =>
    have g2 : ((n1 : Int) == (k1 : Int)) = false := by simp; omega
    have n2x := HZ1.out hq2
    rw [n2x] at hR
    obtain rfl : R = false := by rw [hR.out]; simp
    clear hR n2x
    go_wp2_with fail
    go_ret
    exact ⟨rfl, HC.out _ (Below.refl _ _)⟩
  subst hq2
  replace HY0 := hd (HY0.out rfl)
  replace HY1 := hd (HY1.out rfl)
  simp only [dec_yes, Bool.true_and] at hR
  go_wp2_with fail
  clear a0 b0 a1 b1 a2 b2
  go_loopg [5] n0 (fun k v5 wr => ∃ (i0 : Nat), v5 = .int .i64 (i0 : Int) ∧ i0 + k = n0 ∧ Hid (Below W0.heap.size W0 wr) ∧ Hid (∀ j, j < i0 → pp.getD j default = qp.getD j default))
  case atStart => exact ⟨0, rfl, by omega, hd (Below.refl _ _), hd (fun j hj => absurd hj (Nat.not_lt_zero j))⟩
  case round =>
    obtain ⟨i0, rfl, hik, hbw, HP⟩ := hrel
    have hw := hd (HC.out wr hbw.out)
    by_cases hlt : i0 < n0
    · have hlt' : (i0 : Int) < (n0 : Int) := by omega
      obtain ⟨ga, oa, csp, ea, -, x1, x2⟩ := HA0.out i0 hlt
      obtain ⟨gb, ob, csq, eb, -, y1, y2⟩ := HB0.out i0 hlt
      subst ea eb
      have hst := rsamePart_any (x1.below (hw.out.trans ((bel_drew wr).mono hw.out.size))) (y1.below (hw.out.trans ((bel_drew wr).mono hw.out.size)))
      obtain ⟨r, hr⟩ : ∃ r, Hid (dec (pp.getD i0 default = qp.getD i0 default) = r) := ⟨_, rfl⟩
      rw [hr.out] at hst
      have HQ : Hid (r = true → ∀ j, j < i0 + 1 → pp.getD j default = qp.getD j default) := hd (fun h j hj => by
        rcases Nat.lt_succ_iff_lt_or_eq.1 hj with h1 | h1
        · exact HP.out j h1
        · subst h1
          rw [← hr.out] at h
          by_cases hh : pp.getD j default = qp.getD j default
          · exact hh
          · rw [dec_no hh] at h; cases h)
      have HM : Hid (r = false → R = false) := hd (fun h => by
        have h0 := HN0.out i0 hlt (fun e => by rw [← hr.out, dec_yes e] at h; cases h)
        rw [hR.out, h0]
        all_goals simp)
      clear HP
      clear hr
      generalize pp.getD i0 default = x at *
      generalize qp.getD i0 default = y at *
      obtain ⟨p0, p1, p2, p3, p4, p5⟩ := x
      obtain ⟨up, vp, zp, ep, -⟩ := id x1
      simp only at ep
      subst ep
      obtain ⟨q0, q1, q2, q3, q4, q5⟩ := y
      obtain ⟨uq, vq, zq, eq, -⟩ := id y1
      simp only at eq
      subst eq
      have HG : Hid (∀ W, Below wr.heap.size wr W → W.cell? ⟨B, 1, none⟩ = some (.slice (some ⟨ga, oa, none⟩) n0 lc0) ∧ W.cell? ⟨B1, 1, none⟩ = some (.slice (some ⟨gb, ob, none⟩) n0 ld0) ∧ W.cell? ⟨ga, oa + i0 * 6, none⟩ = some (.int .i64 p0) ∧ W.cell? ⟨ga, oa + i0 * 6 + 1, none⟩ = some (up) ∧ W.cell? ⟨ga, oa + i0 * 6 + 2, none⟩ = some (.int .i64 p2) ∧ W.cell? ⟨ga, oa + i0 * 6 + 3, none⟩ = some (.int .i64 p3) ∧ W.cell? ⟨ga, oa + i0 * 6 + 4, none⟩ = some (vp) ∧ W.cell? ⟨ga, oa + i0 * 6 + 5, none⟩ = some (zp) ∧ W.cell? ⟨gb, ob + i0 * 6, none⟩ = some (.int .i64 q0) ∧ W.cell? ⟨gb, ob + i0 * 6 + 1, none⟩ = some (uq) ∧ W.cell? ⟨gb, ob + i0 * 6 + 2, none⟩ = some (.int .i64 q2) ∧ W.cell? ⟨gb, ob + i0 * 6 + 3, none⟩ = some (.int .i64 q3) ∧ W.cell? ⟨gb, ob + i0 * 6 + 4, none⟩ = some (vq) ∧ W.cell? ⟨gb, ob + i0 * 6 + 5, none⟩ = some (zq)) := hd (fun W hb => ⟨(HD.out W (hbw.out.trans (hb.mono hbw.out.size))).1, (HD.out W (hbw.out.trans (hb.mono hbw.out.size))).2.2.1, x2 W (hw.out.trans (hb.mono hw.out.size)) 0 _ rfl, x2 W (hw.out.trans (hb.mono hw.out.size)) 1 _ rfl, x2 W (hw.out.trans (hb.mono hw.out.size)) 2 _ rfl, x2 W (hw.out.trans (hb.mono hw.out.size)) 3 _ rfl, x2 W (hw.out.trans (hb.mono hw.out.size)) 4 _ rfl, x2 W (hw.out.trans (hb.mono hw.out.size)) 5 _ rfl, y2 W (hw.out.trans (hb.mono hw.out.size)) 0 _ rfl, y2 W (hw.out.trans (hb.mono hw.out.size)) 1 _ rfl, y2 W (hw.out.trans (hb.mono hw.out.size)) 2 _ rfl, y2 W (hw.out.trans (hb.mono hw.out.size)) 3 _ rfl, y2 W (hw.out.trans (hb.mono hw.out.size)) 4 _ rfl, y2 W (hw.out.trans (hb.mono hw.out.size)) 5 _ rfl⟩)
      obtain ⟨f0, f1, f2, f3, f4, f5, f6, f7, f8, f9, f10, f11, f12, f13⟩ := HG.out wr (below_same wr)
      clear x2 y2
      (try clear x1)
      (try clear y1)
      go_upto_region 6 with fail
      go_cut [6] (fun v6 wy => v6 = .bool r ∧ Hid (Below W0.heap.size W0 wy))
      case first =>
        go_region_held3 (fun w' => w'.cell? ⟨B, 1, none⟩ = some (.slice (some ⟨ga, oa, none⟩) n0 lc0) ∧ w'.cell? ⟨B1, 1, none⟩ = some (.slice (some ⟨gb, ob, none⟩) n0 ld0) ∧ w'.cell? ⟨ga, oa + i0 * 6, none⟩ = some (.int .i64 p0) ∧ w'.cell? ⟨ga, oa + i0 * 6 + 1, none⟩ = some (up) ∧ w'.cell? ⟨ga, oa + i0 * 6 + 2, none⟩ = some (.int .i64 p2) ∧ w'.cell? ⟨ga, oa + i0 * 6 + 3, none⟩ = some (.int .i64 p3) ∧ w'.cell? ⟨ga, oa + i0 * 6 + 4, none⟩ = some (vp) ∧ w'.cell? ⟨ga, oa + i0 * 6 + 5, none⟩ = some (zp) ∧ w'.cell? ⟨gb, ob + i0 * 6, none⟩ = some (.int .i64 q0) ∧ w'.cell? ⟨gb, ob + i0 * 6 + 1, none⟩ = some (uq) ∧ w'.cell? ⟨gb, ob + i0 * 6 + 2, none⟩ = some (.int .i64 q2) ∧ w'.cell? ⟨gb, ob + i0 * 6 + 3, none⟩ = some (.int .i64 q3) ∧ w'.cell? ⟨gb, ob + i0 * 6 + 4, none⟩ = some (vq) ∧ w'.cell? ⟨gb, ob + i0 * 6 + 5, none⟩ = some (zq)) (go_keep)
          (first | (go_at_call 15; (with_reducible refine hst.mono ?_); rintro e w2 ⟨rfl, hb2⟩; have hb2' := hd (bel_dr hb2); obtain ⟨e0, e1, e2, e3, e4, e5, e6, e7, e8, e9, e10, e11, e12, e13⟩ := HG.out w2 hb2'.out))
        all_goals (
          go_wp2_with fail
          go_meet
          case rel => exact ⟨rfl, hd (hbw.out.trans (hb2'.out.mono hbw.out.size))⟩)
      case rest =>
        obtain ⟨rfl, hbc⟩ := hcut
        clear HG hw
        clear f0 f1 f2 f3 f4 f5 f6 f7 f8 f9 f10 f11 f12 f13
        cases r
        · obtain rfl : R = false := HM.out rfl
          go_wp2_with fail
          go_ret
          exact ⟨rfl, HC.out _ hbc.out⟩
        · go_wp2_with fail
          go_roundg (gk - 1)
          case rel => exact ⟨i0 + 1, by go_num, by omega, hbc, hd (HQ.out (by trivial))⟩
          case measure => omega
    · obtain rfl : i0 = n0 := by omega
      have hrl := HY0.out HP.out
      rw [hrl] at hR
      simp only [Bool.true_and] at hR
      clear HP hrl hlt hik
      have hbw0 := hbw
      clear hbw hw
      obtain ⟨z0, z1, z2, z3⟩ := HD.out wr hbw0.out
      go_wp2_with fail
      clear z0 z1 z2 z3
      go_loopg [7] n1 (fun k v7 wr => ∃ (i1 : Nat), v7 = .int .i64 (i1 : Int) ∧ i1 + k = n1 ∧ Hid (Below W0.heap.size W0 wr) ∧ Hid (∀ j, j < i1 → pq.getD j default = qq.getD j default))
      case atStart => exact ⟨0, rfl, by omega, hbw0, hd (fun j hj => absurd hj (Nat.not_lt_zero j))⟩
      case round =>
        obtain ⟨i1, rfl, hik, hbw, HP⟩ := hrel
        have hw := hd (HC.out wr hbw.out)
        by_cases hlt : i1 < n1
        · have hlt' : (i1 : Int) < (n1 : Int) := by omega
          obtain ⟨ga, oa, csp, ea, -, x1, x2⟩ := HA1.out i1 hlt
          obtain ⟨gb, ob, csq, eb, -, y1, y2⟩ := HB1.out i1 hlt
          subst ea eb
          have hst := rsameProcess_any (x1.below (hw.out.trans ((bel_drew wr).mono hw.out.size))) (y1.below (hw.out.trans ((bel_drew wr).mono hw.out.size)))
          obtain ⟨r, hr⟩ : ∃ r, Hid (dec (pq.getD i1 default = qq.getD i1 default) = r) := ⟨_, rfl⟩
          rw [hr.out] at hst
          have HQ : Hid (r = true → ∀ j, j < i1 + 1 → pq.getD j default = qq.getD j default) := hd (fun h j hj => by
            rcases Nat.lt_succ_iff_lt_or_eq.1 hj with h1 | h1
            · exact HP.out j h1
            · subst h1
              rw [← hr.out] at h
              by_cases hh : pq.getD j default = qq.getD j default
              · exact hh
              · rw [dec_no hh] at h; cases h)
          have HM : Hid (r = false → R = false) := hd (fun h => by
            have h0 := HN1.out i1 hlt (fun e => by rw [← hr.out, dec_yes e] at h; cases h)
            rw [hR.out, h0]
            all_goals simp)
          clear HP
          clear hr
          generalize pq.getD i1 default = x at *
          generalize qq.getD i1 default = y at *
          obtain ⟨ps, pp, ⟨p0, p1, p2, p3, p4, p5, p6, p7⟩, pc, pi, pf, pw, pl⟩ := x
          obtain ⟨vp, ep, -⟩ := id x1
          simp only at ep
          subst ep
          obtain ⟨qs, qp, ⟨q0, q1, q2, q3, q4, q5, q6, q7⟩, qc, qi, qf, qw, ql⟩ := y
          obtain ⟨vq, eq, -⟩ := id y1
          simp only at eq
          subst eq
          have HG : Hid (∀ W, Below wr.heap.size wr W → W.cell? ⟨B, 2, none⟩ = some (.slice (some ⟨ga, oa, none⟩) n1 lc1) ∧ W.cell? ⟨B1, 2, none⟩ = some (.slice (some ⟨gb, ob, none⟩) n1 ld1) ∧ W.cell? ⟨ga, oa + i1 * 15, none⟩ = some (.int .i64 ps) ∧ W.cell? ⟨ga, oa + i1 * 15 + 1, none⟩ = some (.int .i64 pp) ∧ W.cell? ⟨ga, oa + i1 * 15 + 2, none⟩ = some (.int .i64 p0) ∧ W.cell? ⟨ga, oa + i1 * 15 + 3, none⟩ = some (.int .i64 p1) ∧ W.cell? ⟨ga, oa + i1 * 15 + 4, none⟩ = some (.int .i64 p2) ∧ W.cell? ⟨ga, oa + i1 * 15 + 5, none⟩ = some (.int .i64 p3) ∧ W.cell? ⟨ga, oa + i1 * 15 + 6, none⟩ = some (.int .i64 p4) ∧ W.cell? ⟨ga, oa + i1 * 15 + 7, none⟩ = some (.int .i64 p5) ∧ W.cell? ⟨ga, oa + i1 * 15 + 8, none⟩ = some (.int .i64 p6) ∧ W.cell? ⟨ga, oa + i1 * 15 + 9, none⟩ = some (.int .i64 p7) ∧ W.cell? ⟨ga, oa + i1 * 15 + 10, none⟩ = some (.int .i64 pc) ∧ W.cell? ⟨ga, oa + i1 * 15 + 11, none⟩ = some (.int .i64 pi) ∧ W.cell? ⟨ga, oa + i1 * 15 + 12, none⟩ = some (.bool pf) ∧ W.cell? ⟨ga, oa + i1 * 15 + 13, none⟩ = some (.int .i64 pw) ∧ W.cell? ⟨ga, oa + i1 * 15 + 14, none⟩ = some (vp) ∧ W.cell? ⟨gb, ob + i1 * 15, none⟩ = some (.int .i64 qs) ∧ W.cell? ⟨gb, ob + i1 * 15 + 1, none⟩ = some (.int .i64 qp) ∧ W.cell? ⟨gb, ob + i1 * 15 + 2, none⟩ = some (.int .i64 q0) ∧ W.cell? ⟨gb, ob + i1 * 15 + 3, none⟩ = some (.int .i64 q1) ∧ W.cell? ⟨gb, ob + i1 * 15 + 4, none⟩ = some (.int .i64 q2) ∧ W.cell? ⟨gb, ob + i1 * 15 + 5, none⟩ = some (.int .i64 q3) ∧ W.cell? ⟨gb, ob + i1 * 15 + 6, none⟩ = some (.int .i64 q4) ∧ W.cell? ⟨gb, ob + i1 * 15 + 7, none⟩ = some (.int .i64 q5) ∧ W.cell? ⟨gb, ob + i1 * 15 + 8, none⟩ = some (.int .i64 q6) ∧ W.cell? ⟨gb, ob + i1 * 15 + 9, none⟩ = some (.int .i64 q7) ∧ W.cell? ⟨gb, ob + i1 * 15 + 10, none⟩ = some (.int .i64 qc) ∧ W.cell? ⟨gb, ob + i1 * 15 + 11, none⟩ = some (.int .i64 qi) ∧ W.cell? ⟨gb, ob + i1 * 15 + 12, none⟩ = some (.bool qf) ∧ W.cell? ⟨gb, ob + i1 * 15 + 13, none⟩ = some (.int .i64 qw) ∧ W.cell? ⟨gb, ob + i1 * 15 + 14, none⟩ = some (vq)) := hd (fun W hb => ⟨(HD.out W (hbw.out.trans (hb.mono hbw.out.size))).2.1, (HD.out W (hbw.out.trans (hb.mono hbw.out.size))).2.2.2, x2 W (hw.out.trans (hb.mono hw.out.size)) 0 _ rfl, x2 W (hw.out.trans (hb.mono hw.out.size)) 1 _ rfl, x2 W (hw.out.trans (hb.mono hw.out.size)) 2 _ rfl, x2 W (hw.out.trans (hb.mono hw.out.size)) 3 _ rfl, x2 W (hw.out.trans (hb.mono hw.out.size)) 4 _ rfl, x2 W (hw.out.trans (hb.mono hw.out.size)) 5 _ rfl, x2 W (hw.out.trans (hb.mono hw.out.size)) 6 _ rfl, x2 W (hw.out.trans (hb.mono hw.out.size)) 7 _ rfl, x2 W (hw.out.trans (hb.mono hw.out.size)) 8 _ rfl, x2 W (hw.out.trans (hb.mono hw.out.size)) 9 _ rfl, x2 W (hw.out.trans (hb.mono hw.out.size)) 10 _ rfl, x2 W (hw.out.trans (hb.mono hw.out.size)) 11 _ rfl, x2 W (hw.out.trans (hb.mono hw.out.size)) 12 _ rfl, x2 W (hw.out.trans (hb.mono hw.out.size)) 13 _ rfl, x2 W (hw.out.trans (hb.mono hw.out.size)) 14 _ rfl, y2 W (hw.out.trans (hb.mono hw.out.size)) 0 _ rfl, y2 W (hw.out.trans (hb.mono hw.out.size)) 1 _ rfl, y2 W (hw.out.trans (hb.mono hw.out.size)) 2 _ rfl, y2 W (hw.out.trans (hb.mono hw.out.size)) 3 _ rfl, y2 W (hw.out.trans (hb.mono hw.out.size)) 4 _ rfl, y2 W (hw.out.trans (hb.mono hw.out.size)) 5 _ rfl, y2 W (hw.out.trans (hb.mono hw.out.size)) 6 _ rfl, y2 W (hw.out.trans (hb.mono hw.out.size)) 7 _ rfl, y2 W (hw.out.trans (hb.mono hw.out.size)) 8 _ rfl, y2 W (hw.out.trans (hb.mono hw.out.size)) 9 _ rfl, y2 W (hw.out.trans (hb.mono hw.out.size)) 10 _ rfl, y2 W (hw.out.trans (hb.mono hw.out.size)) 11 _ rfl, y2 W (hw.out.trans (hb.mono hw.out.size)) 12 _ rfl, y2 W (hw.out.trans (hb.mono hw.out.size)) 13 _ rfl, y2 W (hw.out.trans (hb.mono hw.out.size)) 14 _ rfl⟩)
          obtain ⟨f0, f1, f2, f3, f4, f5, f6, f7, f8, f9, f10, f11, f12, f13, f14, f15, f16, f17, f18, f19, f20, f21, f22, f23, f24, f25, f26, f27, f28, f29, f30, f31⟩ := HG.out wr (below_same wr)
          clear x2 y2
          (try clear x1)
          (try clear y1)
          go_upto_region 12 with fail
          go_cut [8] (fun v8 wy => v8 = .bool r ∧ Hid (Below W0.heap.size W0 wy))
          case first =>
            go_region_held3 (fun w' => w'.cell? ⟨B, 2, none⟩ = some (.slice (some ⟨ga, oa, none⟩) n1 lc1) ∧ w'.cell? ⟨B1, 2, none⟩ = some (.slice (some ⟨gb, ob, none⟩) n1 ld1) ∧ w'.cell? ⟨ga, oa + i1 * 15, none⟩ = some (.int .i64 ps) ∧ w'.cell? ⟨ga, oa + i1 * 15 + 1, none⟩ = some (.int .i64 pp) ∧ w'.cell? ⟨ga, oa + i1 * 15 + 2, none⟩ = some (.int .i64 p0) ∧ w'.cell? ⟨ga, oa + i1 * 15 + 3, none⟩ = some (.int .i64 p1) ∧ w'.cell? ⟨ga, oa + i1 * 15 + 4, none⟩ = some (.int .i64 p2) ∧ w'.cell? ⟨ga, oa + i1 * 15 + 5, none⟩ = some (.int .i64 p3) ∧ w'.cell? ⟨ga, oa + i1 * 15 + 6, none⟩ = some (.int .i64 p4) ∧ w'.cell? ⟨ga, oa + i1 * 15 + 7, none⟩ = some (.int .i64 p5) ∧ w'.cell? ⟨ga, oa + i1 * 15 + 8, none⟩ = some (.int .i64 p6) ∧ w'.cell? ⟨ga, oa + i1 * 15 + 9, none⟩ = some (.int .i64 p7) ∧ w'.cell? ⟨ga, oa + i1 * 15 + 10, none⟩ = some (.int .i64 pc) ∧ w'.cell? ⟨ga, oa + i1 * 15 + 11, none⟩ = some (.int .i64 pi) ∧ w'.cell? ⟨ga, oa + i1 * 15 + 12, none⟩ = some (.bool pf) ∧ w'.cell? ⟨ga, oa + i1 * 15 + 13, none⟩ = some (.int .i64 pw) ∧ w'.cell? ⟨ga, oa + i1 * 15 + 14, none⟩ = some (vp) ∧ w'.cell? ⟨gb, ob + i1 * 15, none⟩ = some (.int .i64 qs) ∧ w'.cell? ⟨gb, ob + i1 * 15 + 1, none⟩ = some (.int .i64 qp) ∧ w'.cell? ⟨gb, ob + i1 * 15 + 2, none⟩ = some (.int .i64 q0) ∧ w'.cell? ⟨gb, ob + i1 * 15 + 3, none⟩ = some (.int .i64 q1) ∧ w'.cell? ⟨gb, ob + i1 * 15 + 4, none⟩ = some (.int .i64 q2) ∧ w'.cell? ⟨gb, ob + i1 * 15 + 5, none⟩ = some (.int .i64 q3) ∧ w'.cell? ⟨gb, ob + i1 * 15 + 6, none⟩ = some (.int .i64 q4) ∧ w'.cell? ⟨gb, ob + i1 * 15 + 7, none⟩ = some (.int .i64 q5) ∧ w'.cell? ⟨gb, ob + i1 * 15 + 8, none⟩ = some (.int .i64 q6) ∧ w'.cell? ⟨gb, ob + i1 * 15 + 9, none⟩ = some (.int .i64 q7) ∧ w'.cell? ⟨gb, ob + i1 * 15 + 10, none⟩ = some (.int .i64 qc) ∧ w'.cell? ⟨gb, ob + i1 * 15 + 11, none⟩ = some (.int .i64 qi) ∧ w'.cell? ⟨gb, ob + i1 * 15 + 12, none⟩ = some (.bool qf) ∧ w'.cell? ⟨gb, ob + i1 * 15 + 13, none⟩ = some (.int .i64 qw) ∧ w'.cell? ⟨gb, ob + i1 * 15 + 14, none⟩ = some (vq)) (go_keep)
              (first | (go_at_call 16; (with_reducible refine hst.mono ?_); rintro e w2 ⟨rfl, hb2⟩; have hb2' := hd (bel_dr hb2); obtain ⟨e0, e1, e2, e3, e4, e5, e6, e7, e8, e9, e10, e11, e12, e13, e14, e15, e16, e17, e18, e19, e20, e21, e22, e23, e24, e25, e26, e27, e28, e29, e30, e31⟩ := HG.out w2 hb2'.out))
            all_goals (
              go_wp2_with fail
              go_meet
              case rel => exact ⟨rfl, hd (hbw.out.trans (hb2'.out.mono hbw.out.size))⟩)
          case rest =>
            obtain ⟨rfl, hbc⟩ := hcut
            clear HG hw
            clear f0 f1 f2 f3 f4 f5 f6 f7 f8 f9 f10 f11 f12 f13 f14 f15 f16 f17 f18 f19 f20 f21 f22 f23 f24 f25 f26 f27 f28 f29 f30 f31
            cases r
            · obtain rfl : R = false := HM.out rfl
              go_wp2_with fail
              go_ret
              exact ⟨rfl, HC.out _ hbc.out⟩
            · go_wp2_with fail
              go_roundg (gk - 1)
              case rel => exact ⟨i1 + 1, by go_num, by omega, hbc, hd (HQ.out (by trivial))⟩
              case measure => omega
        · obtain rfl : i1 = n1 := by omega
          have hrl := HY1.out HP.out
          rw [hrl] at hR
          clear HP hrl hlt hik
          obtain ⟨z0, z1, z2, z3⟩ := HD.out wr hbw.out
          go_wp2_with fail
          go_ret
          exact ⟨ret_bool (by rw [hR.out]), HC.out _ hbw.out⟩
end Go.Proofs.Ytjbmljheepomnaa
