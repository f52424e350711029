/- The document: two processes. -/
import Derived.Test.YtjbmljheepomnaaVRl
namespace Go.Proofs.Ytjbmljheepomnaa
open Go.RowKit

set_option maxRecDepth 100000 in
set_option maxHeartbeats 8000000 in
theorem rsameProcess_any {w : World} {ca cb : List Value} {x y : PrX} (h1 : rE w ca x) (h2 : rE w cb y) :
    Calls Try.prog 16 #[.agg ca.toArray, .agg cb.toArray] w fun e w' => e = .returned (.bool (dec (x = y))) ∧ Below w.heap.size w w' := by
  obtain ⟨ps, pp, ⟨p0, p1, p2, p3, p4, p5, p6, p7⟩, pc, pi, pf, pw, pl⟩ := x
  obtain ⟨v, e1, k1⟩ := h1
  simp only at e1 k1
  subst e1
  obtain ⟨qs, qp, ⟨q0, q1, q2, q3, q4, q5, q6, q7⟩, qc, qi, qf, qw, ql⟩ := y
  obtain ⟨v2, e2, m1⟩ := h2
  simp only at e2 m1
  subst e2
  obtain ⟨R, hR⟩ : ∃ R, Hid (R = (dec (ps = qs) && (dec (pp = qp) && (dec ((Rg.mk p0 p1 p2 p3 p4 p5 p6 p7) = (Rg.mk q0 q1 q2 q3 q4 q5 q6 q7)) && (dec (pc = qc) && (dec (pi = qi) && (dec (pf = qf) && (dec (pw = qw) && dec (pl = ql))))))))) := ⟨_, rfl⟩
  have hRR : dec ((PrX.mk ps pp (Rg.mk p0 p1 p2 p3 p4 p5 p6 p7) pc pi pf pw pl) = PrX.mk qs qp (Rg.mk q0 q1 q2 q3 q4 q5 q6 q7) qc qi qf qw ql) = R := by
    rw [hR.out, ← dec_and, ← dec_and, ← dec_and, ← dec_and, ← dec_and, ← dec_and, ← dec_and]
    refine dec_iff ?_
    simp only [PrX.mk.injEq]
    all_goals (constructor <;> (intro h; simp only [h, and_self]))
  rw [hRR]
  clear hRR
  obtain ⟨la0, lc0, ea0, hla0, hA0⟩ := k1.at' (by decide)
  obtain ⟨lb0, ld0, eb0, hlb0, hB0⟩ := m1.at' (by decide)
  subst ea0 eb0
  have HA0 := hd hA0
  have HB0 := hd hB0
  obtain ⟨rl0, hrl0⟩ : ∃ r, Hid (dec (pl = ql) = r) := ⟨_, rfl⟩
  rw [hrl0.out] at hR
  have HY0 := hd (fun hl => lst_yes (xs := pl) (ys := ql) hl hrl0.out)
  have HN0 := hd (lst_no (n := pl.length) hrl0.out)
  have HZ0 : Hid (¬ pl.length = ql.length → rl0 = false) := hd (fun h => by rw [← hrl0.out]; exact dec_no (fun e => h (by rw [e])))
  unfold BIG at hla0 hlb0
  obtain ⟨n0, hn0⟩ : ∃ n, Hid (pl.length = n) := ⟨_, rfl⟩
  obtain ⟨k0, hk0⟩ : ∃ n, Hid (ql.length = n) := ⟨_, rfl⟩
  rw [hn0.out] at hla0 HA0 HY0 HN0 HZ0 ⊢
  rw [hk0.out] at hlb0 HB0 HY0 HZ0 ⊢
  clear k1 m1 hA0 hB0 hrl0 hn0 hk0
  obtain ⟨rr, hrr⟩ : ∃ r, Hid (dec ((Rg.mk p0 p1 p2 p3 p4 p5 p6 p7) = (Rg.mk q0 q1 q2 q3 q4 q5 q6 q7)) = r) := ⟨_, rfl⟩
  have heq := fun W => eq8 (Rg.mk p0 p1 p2 p3 p4 p5 p6 p7) (Rg.mk q0 q1 q2 q3 q4 q5 q6 q7) W
  rw [hrr.out] at heq hR
  clear hrr
  unfold rgA at heq
  simp only at heq
  go_enter Try.func16, Try.ntmps16
  go_upto_region 1 with fail
  obtain ⟨h1, h2⟩ := two_box (w := w) #[.int .i64 ps, .int .i64 pp, .int .i64 p0, .int .i64 p1, .int .i64 p2, .int .i64 p3, .int .i64 p4, .int .i64 p5, .int .i64 p6, .int .i64 p7, .int .i64 pc, .int .i64 pi, .bool pf, .int .i64 pw, .slice la0 n0 lc0] #[.int .i64 qs, .int .i64 qp, .int .i64 q0, .int .i64 q1, .int .i64 q2, .int .i64 q3, .int .i64 q4, .int .i64 q5, .int .i64 q6, .int .i64 q7, .int .i64 qc, .int .i64 qi, .bool qf, .int .i64 qw, .slice lb0 k0 ld0] 49
  obtain ⟨W0, hW0⟩ : ∃ W, Hid ((w.alloc (.cells #[.int .i64 ps, .int .i64 pp, .int .i64 p0, .int .i64 p1, .int .i64 p2, .int .i64 p3, .int .i64 p4, .int .i64 p5, .int .i64 p6, .int .i64 p7, .int .i64 pc, .int .i64 pi, .bool pf, .int .i64 pw, .slice la0 n0 lc0] 49)).alloc (.cells #[.int .i64 qs, .int .i64 qp, .int .i64 q0, .int .i64 q1, .int .i64 q2, .int .i64 q3, .int .i64 q4, .int .i64 q5, .int .i64 q6, .int .i64 q7, .int .i64 qc, .int .i64 qi, .bool qf, .int .i64 qw, .slice lb0 k0 ld0] 49) = W) := ⟨_, rfl⟩
  rw [hW0.out] at h1 h2 ⊢
  obtain ⟨B, hB⟩ : ∃ n, Hid (w.heap.size = n) := ⟨_, rfl⟩
  obtain ⟨B1, hB1⟩ : ∃ n, Hid (B + 1 = n) := ⟨_, rfl⟩
  rw [hB.out, hB1.out] at h1
  rw [hB.out, hB1.out]
  have HBW := hd h2
  have HD : Hid (∀ V, Below W0.heap.size W0 V → V.cell? ⟨B, 14, none⟩ = some (.slice la0 n0 lc0) ∧ V.cell? ⟨B1, 14, none⟩ = some (.slice lb0 k0 ld0)) := hd (fun V hb => by
    obtain ⟨e1, e2⟩ := h1 V hb
    exact ⟨box_at e1 rfl, box_at e2 rfl⟩)
  have HC : Hid (∀ V, Below W0.heap.size W0 V → Below w.heap.size w V) := hd (fun V hb => HBW.out.trans (hb.mono HBW.out.size))
  obtain ⟨bx1, bx2⟩ := h1 W0 (Below.refl _ _)
  have a0 : W0.cell? ⟨B, 0, none⟩ = some (.int .i64 ps) := box_at bx1 rfl
  have b0 : W0.cell? ⟨B1, 0, none⟩ = some (.int .i64 qs) := box_at bx2 rfl
  have a1 : W0.cell? ⟨B, 1, none⟩ = some (.int .i64 pp) := box_at bx1 rfl
  have b1 : W0.cell? ⟨B1, 1, none⟩ = some (.int .i64 qp) := box_at bx2 rfl
  have a2 : W0.cell? ⟨B, 2, none⟩ = some (.int .i64 p0) := box_at bx1 rfl
  have b2 : W0.cell? ⟨B1, 2, none⟩ = some (.int .i64 q0) := box_at bx2 rfl
  have a3 : W0.cell? ⟨B, 3, none⟩ = some (.int .i64 p1) := box_at bx1 rfl
  have b3 : W0.cell? ⟨B1, 3, none⟩ = some (.int .i64 q1) := box_at bx2 rfl
  have a4 : W0.cell? ⟨B, 4, none⟩ = some (.int .i64 p2) := box_at bx1 rfl
  have b4 : W0.cell? ⟨B1, 4, none⟩ = some (.int .i64 q2) := box_at bx2 rfl
  have a5 : W0.cell? ⟨B, 5, none⟩ = some (.int .i64 p3) := box_at bx1 rfl
  have b5 : W0.cell? ⟨B1, 5, none⟩ = some (.int .i64 q3) := box_at bx2 rfl
  have a6 : W0.cell? ⟨B, 6, none⟩ = some (.int .i64 p4) := box_at bx1 rfl
  have b6 : W0.cell? ⟨B1, 6, none⟩ = some (.int .i64 q4) := box_at bx2 rfl
  have a7 : W0.cell? ⟨B, 7, none⟩ = some (.int .i64 p5) := box_at bx1 rfl
  have b7 : W0.cell? ⟨B1, 7, none⟩ = some (.int .i64 q5) := box_at bx2 rfl
  have a8 : W0.cell? ⟨B, 8, none⟩ = some (.int .i64 p6) := box_at bx1 rfl
  have b8 : W0.cell? ⟨B1, 8, none⟩ = some (.int .i64 q6) := box_at bx2 rfl
  have a9 : W0.cell? ⟨B, 9, none⟩ = some (.int .i64 p7) := box_at bx1 rfl
  have b9 : W0.cell? ⟨B1, 9, none⟩ = some (.int .i64 q7) := box_at bx2 rfl
  have a10 : W0.cell? ⟨B, 10, none⟩ = some (.int .i64 pc) := box_at bx1 rfl
  have b10 : W0.cell? ⟨B1, 10, none⟩ = some (.int .i64 qc) := box_at bx2 rfl
  have a11 : W0.cell? ⟨B, 11, none⟩ = some (.int .i64 pi) := box_at bx1 rfl
  have b11 : W0.cell? ⟨B1, 11, none⟩ = some (.int .i64 qi) := box_at bx2 rfl
  have a12 : W0.cell? ⟨B, 12, none⟩ = some (.bool pf) := box_at bx1 rfl
  have b12 : W0.cell? ⟨B1, 12, none⟩ = some (.bool qf) := box_at bx2 rfl
  have a13 : W0.cell? ⟨B, 13, none⟩ = some (.int .i64 pw) := box_at bx1 rfl
  have b13 : W0.cell? ⟨B1, 13, none⟩ = some (.int .i64 qw) := box_at bx2 rfl
  have a14 : W0.cell? ⟨B, 14, none⟩ = some (.slice la0 n0 lc0) := box_at bx1 rfl
  have b14 : W0.cell? ⟨B1, 14, none⟩ = some (.slice lb0 k0 ld0) := box_at bx2 rfl
  clear h1 h2 hW0 bx1 bx2
  by_cases hq0 : ps = qs
  case neg =>
    have g0 : (ps == qs) = false := by simpa using hq0
    have n0x := dec_no hq0
    rw [n0x] at hR
    obtain rfl : R = false := by rw [hR.out]; simp
    clear hR n0x
    go_wp2_with fail
    go_ret
    exact ⟨rfl, HC.out _ (Below.refl _ _)⟩
  subst hq0
  by_cases hq1 : pp = qp
  case neg =>
    have g1 : (pp == qp) = false := by simpa using hq1
    have n1x := dec_no hq1
    rw [n1x] at hR
    obtain rfl : R = false := by rw [hR.out]; simp
    clear hR n1x
    go_wp2_with fail
    go_ret
    exact ⟨rfl, HC.out _ (Below.refl _ _)⟩
  subst hq1
  cases rr
  case false =>
    obtain rfl : R = false := by rw [hR.out]; simp
    clear hR
    go_wp2_with fail
    go_ret
    exact ⟨rfl, HC.out _ (Below.refl _ _)⟩
  by_cases hq3 : pc = qc
  case neg =>
    have g3 : (pc == qc) = false := by simpa using hq3
    have n3x := dec_no hq3
    rw [n3x] at hR
    obtain rfl : R = false := by rw [hR.out]; simp
    clear hR n3x
    go_wp2_with fail
    go_ret
    exact ⟨rfl, HC.out _ (Below.refl _ _)⟩
  subst hq3
  by_cases hq4 : pi = qi
  case neg =>
    have g4 : (pi == qi) = false := by simpa using hq4
    have n4x := dec_no hq4
    rw [n4x] at hR
    obtain rfl : R = false := by rw [hR.out]; simp
    clear hR n4x
    go_wp2_with fail
    go_ret
    exact ⟨rfl, HC.out _ (Below.refl _ _)⟩
  subst hq4
  by_cases hq5 : pf = qf
  case neg =>
    have g5 : (pf == qf) = false := by simpa using hq5
    have n5x := dec_no hq5
    rw [n5x] at hR
    obtain rfl : R = false := by rw [hR.out]; simp
    clear hR n5x
    go_wp2_with fail
    go_ret
    exact ⟨rfl, HC.out _ (Below.refl _ _)⟩
  subst hq5
  by_cases hq6 : pw = qw
  case neg =>
    have g6 : (pw == qw) = false := by simpa using hq6
    have n6x := dec_no hq6
    rw [n6x] at hR
    obtain rfl : R = false := by rw [hR.out]; simp
    clear hR n6x
    go_wp2_with fail
    go_ret
    exact ⟨rfl, HC.out _ (Below.refl _ _)⟩
  subst hq6
  by_cases hq7 : n0 = k0
  case neg =>
    have g7 : ((n0 : Int) == (k0 : Int)) = false := by simp; omega
    have n7x := HZ0.out hq7
    rw [n7x] at hR
    obtain rfl : R = false := by rw [hR.out]; simp
    clear hR n7x
    go_wp2_with fail
    go_ret
    exact ⟨rfl, HC.out _ (Below.refl _ _)⟩
  subst hq7
  replace HY0 := hd (HY0.out rfl)
  simp only [dec_yes, Bool.true_and] at hR
  go_wp2_with fail
  clear a0 b0 a1 b1 a2 b2 a3 b3 a4 b4 a5 b5 a6 b6 a7 b7 a8 b8 a9 b9 a10 b10 a11 b11 a12 b12 a13 b13 a14 b14
  go_loopg [5] n0 (fun k v5 wr => ∃ (i0 : Nat), v5 = .int .i64 (i0 : Int) ∧ i0 + k = n0 ∧ Hid (Below W0.heap.size W0 wr) ∧ Hid (∀ j, j < i0 → pl.getD j default = ql.getD j default))
  case atStart => exact ⟨0, rfl, by omega, hd (Below.refl _ _), hd (fun j hj => absurd hj (Nat.not_lt_zero j))⟩
  case round =>
    obtain ⟨i0, rfl, hik, hbw, HP⟩ := hrel
    have hw := hd (HC.out wr hbw.out)
    by_cases hlt : i0 < n0
    · have hlt' : (i0 : Int) < (n0 : Int) := by omega
      obtain ⟨ga, oa, csp, ea, -, x1, x2⟩ := HA0.out i0 hlt
      obtain ⟨gb, ob, csq, eb, -, y1, y2⟩ := HB0.out i0 hlt
      subst ea eb
      have hst := rsameLane_any (x1.below (hw.out.trans ((bel_drew wr).mono hw.out.size))) (y1.below (hw.out.trans ((bel_drew wr).mono hw.out.size)))
      obtain ⟨r, hr⟩ : ∃ r, Hid (dec (pl.getD i0 default = ql.getD i0 default) = r) := ⟨_, rfl⟩
      rw [hr.out] at hst
      have HQ : Hid (r = true → ∀ j, j < i0 + 1 → pl.getD j default = ql.getD j default) := hd (fun h j hj => by
        rcases Nat.lt_succ_iff_lt_or_eq.1 hj with h1 | h1
        · exact HP.out j h1
        · subst h1
          rw [← hr.out] at h
          by_cases hh : pl.getD j default = ql.getD j default
          · exact hh
          · rw [dec_no hh] at h; cases h)
      have HM : Hid (r = false → R = false) := hd (fun h => by
        have h0 := HN0.out i0 hlt (fun e => by rw [← hr.out, dec_yes e] at h; cases h)
        rw [hR.out, h0]
        all_goals simp)
      clear HP
      clear hr
      generalize pl.getD i0 default = x at *
      generalize ql.getD i0 default = y at *
      obtain ⟨pv, pw, pt, pd⟩ := x
      obtain ⟨up, vp, ep, -⟩ := id x1
      simp only at ep
      subst ep
      obtain ⟨qv, qw, qt, qd⟩ := y
      obtain ⟨uq, vq, eq, -⟩ := id y1
      simp only at eq
      subst eq
      have HG : Hid (∀ W, Below wr.heap.size wr W → W.cell? ⟨B, 14, none⟩ = some (.slice (some ⟨ga, oa, none⟩) n0 lc0) ∧ W.cell? ⟨B1, 14, none⟩ = some (.slice (some ⟨gb, ob, none⟩) n0 ld0) ∧ W.cell? ⟨ga, oa + i0 * 4, none⟩ = some (up) ∧ W.cell? ⟨ga, oa + i0 * 4 + 1, none⟩ = some (vp) ∧ W.cell? ⟨ga, oa + i0 * 4 + 2, none⟩ = some (.int .i64 pt) ∧ W.cell? ⟨ga, oa + i0 * 4 + 3, none⟩ = some (.int .i64 pd) ∧ W.cell? ⟨gb, ob + i0 * 4, none⟩ = some (uq) ∧ W.cell? ⟨gb, ob + i0 * 4 + 1, none⟩ = some (vq) ∧ W.cell? ⟨gb, ob + i0 * 4 + 2, none⟩ = some (.int .i64 qt) ∧ W.cell? ⟨gb, ob + i0 * 4 + 3, none⟩ = some (.int .i64 qd)) := hd (fun W hb => ⟨(HD.out W (hbw.out.trans (hb.mono hbw.out.size))).1, (HD.out W (hbw.out.trans (hb.mono hbw.out.size))).2, x2 W (hw.out.trans (hb.mono hw.out.size)) 0 _ rfl, x2 W (hw.out.trans (hb.mono hw.out.size)) 1 _ rfl, x2 W (hw.out.trans (hb.mono hw.out.size)) 2 _ rfl, x2 W (hw.out.trans (hb.mono hw.out.size)) 3 _ rfl, y2 W (hw.out.trans (hb.mono hw.out.size)) 0 _ rfl, y2 W (hw.out.trans (hb.mono hw.out.size)) 1 _ rfl, y2 W (hw.out.trans (hb.mono hw.out.size)) 2 _ rfl, y2 W (hw.out.trans (hb.mono hw.out.size)) 3 _ rfl⟩)
      obtain ⟨f0, f1, f2, f3, f4, f5, f6, f7, f8, f9⟩ := HG.out wr (below_same wr)
      clear x2 y2
      (try clear x1)
      (try clear y1)
      go_upto_region 6 with fail
      go_cut [6] (fun v6 wy => v6 = .bool r ∧ Hid (Below W0.heap.size W0 wy))
      case first =>
        go_region_held3 (fun w' => w'.cell? ⟨B, 14, none⟩ = some (.slice (some ⟨ga, oa, none⟩) n0 lc0) ∧ w'.cell? ⟨B1, 14, none⟩ = some (.slice (some ⟨gb, ob, none⟩) n0 ld0) ∧ w'.cell? ⟨ga, oa + i0 * 4, none⟩ = some (up) ∧ w'.cell? ⟨ga, oa + i0 * 4 + 1, none⟩ = some (vp) ∧ w'.cell? ⟨ga, oa + i0 * 4 + 2, none⟩ = some (.int .i64 pt) ∧ w'.cell? ⟨ga, oa + i0 * 4 + 3, none⟩ = some (.int .i64 pd) ∧ w'.cell? ⟨gb, ob + i0 * 4, none⟩ = some (uq) ∧ w'.cell? ⟨gb, ob + i0 * 4 + 1, none⟩ = some (vq) ∧ w'.cell? ⟨gb, ob + i0 * 4 + 2, none⟩ = some (.int .i64 qt) ∧ w'.cell? ⟨gb, ob + i0 * 4 + 3, none⟩ = some (.int .i64 qd)) (go_keep)
          (first | (go_at_call 26; (with_reducible refine hst.mono ?_); rintro e w2 ⟨rfl, hb2⟩; have hb2' := hd (bel_dr hb2); obtain ⟨e0, e1, e2, e3, e4, e5, e6, e7, e8, e9⟩ := HG.out w2 hb2'.out))
        all_goals (
          go_wp2_with fail
          go_meet
          case rel => exact ⟨rfl, hd (hbw.out.trans (hb2'.out.mono hbw.out.size))⟩)
      case rest =>
        obtain ⟨rfl, hbc⟩ := hcut
        clear HG hw
        clear f0 f1 f2 f3 f4 f5 f6 f7 f8 f9
        cases r
        · obtain rfl : R = false := HM.out rfl
          go_wp2_with fail
          go_ret
          exact ⟨rfl, HC.out _ hbc.out⟩
        · go_wp2_with fail
          go_roundg (gk - 1)
          case rel => exact ⟨i0 + 1, by go_num, by omega, hbc, hd (HQ.out (by trivial))⟩
          case measure => omega
    · obtain rfl : i0 = n0 := by omega
      have hrl := HY0.out HP.out
      rw [hrl] at hR
      clear HP hrl hlt hik
      obtain ⟨z0, z1⟩ := HD.out wr hbw.out
      go_wp2_with fail
      go_ret
      exact ⟨ret_bool (by rw [hR.out]), HC.out _ hbw.out⟩
end Go.Proofs.Ytjbmljheepomnaa
