/- The document: two partitions. -/
import Derived.Test.YtjbmljheepomnaaVRi
namespace Go.Proofs.Ytjbmljheepomnaa
open Go.RowKit

set_option maxRecDepth 100000 in
set_option maxHeartbeats 8000000 in
theorem rsamePart_any {w : World} {ca cb : List Value} {x y : PtX} (h1 : pE w ca x) (h2 : pE w cb y) :
    Calls Try.prog 15 #[.agg ca.toArray, .agg cb.toArray] w fun e w' => e = .returned (.bool (dec (x = y))) ∧ Below w.heap.size w w' := by
  obtain ⟨p0, pl, p2, p3, po, pq⟩ := x
  obtain ⟨u, v, z, e1, k1, k2, k3⟩ := h1
  simp only at e1 k1 k2 k3
  subst e1
  obtain ⟨q0, ql, q2, q3, qo, qq⟩ := y
  obtain ⟨u2, v2, z2, e2, m1, m2, m3⟩ := h2
  simp only at e2 m1 m2 m3
  subst e2
  obtain ⟨R, hR⟩ : ∃ R, Hid (R = (dec (p0 = q0) && (dec (p2 = q2) && (dec (p3 = q3) && (dec (pl = ql) && (dec (pq = qq) && dec (po = qo))))))) := ⟨_, rfl⟩
  have hRR : dec ((PtX.mk p0 pl p2 p3 po pq) = PtX.mk q0 ql q2 q3 qo qq) = R := by
    rw [hR.out, ← dec_and, ← dec_and, ← dec_and, ← dec_and, ← dec_and]
    refine dec_iff ?_
    simp only [PtX.mk.injEq]
    all_goals (constructor <;> (intro h; simp only [h, and_self]))
  rw [hRR]
  clear hRR
  have HO : Hid (∀ V, Below w.heap.size w V → Calls Try.prog 25 #[v, v2] V fun e w' => e = .returned (.bool (dec (po = qo))) ∧ Below V.heap.size V w') := hd fun V hb => rints_any (k2.below hb fun _ _ h => h) (m2.below hb fun _ _ h => h)
  obtain ⟨ro, hro⟩ : ∃ r, Hid (dec (po = qo) = r) := ⟨_, rfl⟩
  rw [hro.out] at HO hR
  clear hro k2 m2
  obtain ⟨la0, lc0, ea0, hla0, hA0⟩ := k1.at' (by decide)
  obtain ⟨lb0, ld0, eb0, hlb0, hB0⟩ := m1.at' (by decide)
  subst ea0 eb0
  have HA0 := hd hA0
  have HB0 := hd hB0
  obtain ⟨rl0, hrl0⟩ : ∃ r, Hid (dec (pl = ql) = r) := ⟨_, rfl⟩
  rw [hrl0.out] at hR
  have HY0 := hd (fun hl => lst_yes (xs := pl) (ys := ql) hl hrl0.out)
  have HN0 := hd (lst_no (n := pl.length) hrl0.out)
  have HZ0 : Hid (¬ pl.length = ql.length → rl0 = false) := hd (fun h => by rw [← hrl0.out]; exact dec_no (fun e => h (by rw [e])))
  unfold BIG at hla0 hlb0
  obtain ⟨n0, hn0⟩ : ∃ n, Hid (pl.length = n) := ⟨_, rfl⟩
  obtain ⟨k0, hk0⟩ : ∃ n, Hid (ql.length = n) := ⟨_, rfl⟩
  rw [hn0.out] at hla0 HA0 HY0 HN0 HZ0 ⊢
  rw [hk0.out] at hlb0 HB0 HY0 HZ0 ⊢
  clear k1 m1 hA0 hB0 hrl0 hn0 hk0
  obtain ⟨la1, lc1, ea1, hla1, hA1⟩ := k3.at' (by decide)
  obtain ⟨lb1, ld1, eb1, hlb1, hB1⟩ := m3.at' (by decide)
  subst ea1 eb1
  have HA1 := hd hA1
  have HB1 := hd hB1
  obtain ⟨rl1, hrl1⟩ : ∃ r, Hid (dec (pq = qq) = r) := ⟨_, rfl⟩
  rw [hrl1.out] at hR
  have HY1 := hd (fun hl => lst_yes (xs := pq) (ys := qq) hl hrl1.out)
  have HN1 := hd (lst_no (n := pq.length) hrl1.out)
  have HZ1 : Hid (¬ pq.length = qq.length → rl1 = false) := hd (fun h => by rw [← hrl1.out]; exact dec_no (fun e => h (by rw [e])))
  unfold BIG at hla1 hlb1
  obtain ⟨n1, hn1⟩ : ∃ n, Hid (pq.length = n) := ⟨_, rfl⟩
  obtain ⟨k1, hk1⟩ : ∃ n, Hid (qq.length = n) := ⟨_, rfl⟩
  rw [hn1.out] at hla1 HA1 HY1 HN1 HZ1 ⊢
  rw [hk1.out] at hlb1 HB1 HY1 HZ1 ⊢
  clear k3 m3 hA1 hB1 hrl1 hn1 hk1
  go_enter Try.func15, Try.ntmps15
  go_upto_region 1 with fail
  obtain ⟨h1, h2⟩ := two_box (w := w) #[.int .i64 p0, .slice la0 n0 lc0, .int .i64 p2, .int .i64 p3, v, .slice la1 n1 lc1] #[.int .i64 q0, .slice lb0 k0 ld0, .int .i64 q2, .int .i64 q3, v2, .slice lb1 k1 ld1] 43
  obtain ⟨W0, hW0⟩ : ∃ W, Hid ((w.alloc (.cells #[.int .i64 p0, .slice la0 n0 lc0, .int .i64 p2, .int .i64 p3, v, .slice la1 n1 lc1] 43)).alloc (.cells #[.int .i64 q0, .slice lb0 k0 ld0, .int .i64 q2, .int .i64 q3, v2, .slice lb1 k1 ld1] 43) = W) := ⟨_, rfl⟩
  rw [hW0.out] at h1 h2 ⊢
  obtain ⟨B, hB⟩ : ∃ n, Hid (w.heap.size = n) := ⟨_, rfl⟩
  obtain ⟨B1, hB1⟩ : ∃ n, Hid (B + 1 = n) := ⟨_, rfl⟩
  rw [hB.out, hB1.out] at h1
  rw [hB.out, hB1.out]
  have HBW := hd h2
  have HD : Hid (∀ V, Below W0.heap.size W0 V → V.cell? ⟨B, 1, none⟩ = some (.slice la0 n0 lc0) ∧ V.cell? ⟨B, 5, none⟩ = some (.slice la1 n1 lc1) ∧ V.cell? ⟨B, 4, none⟩ = some (v) ∧ V.cell? ⟨B1, 1, none⟩ = some (.slice lb0 k0 ld0) ∧ V.cell? ⟨B1, 5, none⟩ = some (.slice lb1 k1 ld1) ∧ V.cell? ⟨B1, 4, none⟩ = some (v2)) := hd (fun V hb => by
    obtain ⟨e1, e2⟩ := h1 V hb
    exact ⟨box_at e1 rfl, box_at e1 rfl, box_at e1 rfl, box_at e2 rfl, box_at e2 rfl, box_at e2 rfl⟩)
  have HC : Hid (∀ V, Below W0.heap.size W0 V → Below w.heap.size w V) := hd (fun V hb => HBW.out.trans (hb.mono HBW.out.size))
  obtain ⟨bx1, bx2⟩ := h1 W0 (Below.refl _ _)
  have a0 : W0.cell? ⟨B, 0, none⟩ = some (.int .i64 p0) := box_at bx1 rfl
  have b0 : W0.cell? ⟨B1, 0, none⟩ = some (.int .i64 q0) := box_at bx2 rfl
  have a1 : W0.cell? ⟨B, 1, none⟩ = some (.slice la0 n0 lc0) := box_at bx1 rfl
  have b1 : W0.cell? ⟨B1, 1, none⟩ = some (.slice lb0 k0 ld0) := box_at bx2 rfl
  have a2 : W0.cell? ⟨B, 2, none⟩ = some (.int .i64 p2) := box_at bx1 rfl
  have b2 : W0.cell? ⟨B1, 2, none⟩ = some (.int .i64 q2) := box_at bx2 rfl
  have a3 : W0.cell? ⟨B, 3, none⟩ = some (.int .i64 p3) := box_at bx1 rfl
  have b3 : W0.cell? ⟨B1, 3, none⟩ = some (.int .i64 q3) := box_at bx2 rfl
  have a4 : W0.cell? ⟨B, 4, none⟩ = some (v) := box_at bx1 rfl
  have b4 : W0.cell? ⟨B1, 4, none⟩ = some (v2) := box_at bx2 rfl
  have a5 : W0.cell? ⟨B, 5, none⟩ = some (.slice la1 n1 lc1) := box_at bx1 rfl
  have b5 : W0.cell? ⟨B1, 5, none⟩ = some (.slice lb1 k1 ld1) := box_at bx2 rfl
  clear h1 h2 hW0 bx1 bx2
  by_cases hq0 : p0 = q0
  case neg =>
    have g0 : (p0 == q0) = false := by simpa using hq0
    have n0x := dec_no hq0
    rw [n0x] at hR
    obtain rfl : R = false := by rw [hR.out]; simp
    clear hR n0x
    go_wp2_with fail
    go_ret
    exact ⟨rfl, HC.out _ (Below.refl _ _)⟩
  subst hq0
  by_cases hq1 : p2 = q2
  case neg =>
    have g1 : (p2 == q2) = false := by simpa using hq1
    have n1x := dec_no hq1
    rw [n1x] at hR
    obtain rfl : R = false := by rw [hR.out]; simp
    clear hR n1x
    go_wp2_with fail
    go_ret
    exact ⟨rfl, HC.out _ (Below.refl _ _)⟩
  subst hq1
  by_cases hq2 : p3 = q3
  case neg =>
    have g2 : (p3 == q3) = false := by simpa using hq2
    have n2x := dec_no hq2
    rw [n2x] at hR
    obtain rfl : R = false := by rw [hR.out]; simp
    clear hR n2x
    go_wp2_with fail
    go_ret
    exact ⟨rfl, HC.out _ (Below.refl _ _)⟩
  subst hq2
  by_cases hq3 : n0 = k0
  case neg =>
    have g3 : ((n0 : Int) == (k0 : Int)) = false := by simp; omega
    have n3x := HZ0.out hq3
    rw [n3x] at hR
    obtain rfl : R = false := by rw [hR.out]; simp
    clear hR n3x
    go_wp2_with fail
    go_ret
    exact ⟨rfl, HC.out _ (Below.refl _ _)⟩
  subst hq3
  by_cases hq4 : n1 = k1
  case neg =>
    have g4 : ((n1 : Int) == (k1 : Int)) = false := by simp; omega
    have n4x := HZ1.out hq4
    rw [n4x] at hR
    obtain rfl : R = false := by rw [hR.out]; simp
    clear hR n4x
    go_wp2_with fail
    go_ret
    exact ⟨rfl, HC.out _ (Below.refl _ _)⟩
  subst hq4
  replace HY0 := hd (HY0.out rfl)
  replace HY1 := hd (HY1.out rfl)
  simp only [dec_yes, Bool.true_and] at hR
  go_wp2_with fail
  clear a0 b0 a1 b1 a2 b2 a3 b3 a4 b4 a5 b5
  go_loopg [5] n0 (fun k v5 wr => ∃ (i0 : Nat), v5 = .int .i64 (i0 : Int) ∧ i0 + k = n0 ∧ Hid (Below W0.heap.size W0 wr) ∧ Hid (∀ j, j < i0 → pl.getD j default = ql.getD j default))
  case atStart => exact ⟨0, rfl, by omega, hd (Below.refl _ _), hd (fun j hj => absurd hj (Nat.not_lt_zero j))⟩
  case round =>
    obtain ⟨i0, rfl, hik, hbw, HP⟩ := hrel
    have hw := hd (HC.out wr hbw.out)
    by_cases hlt : i0 < n0
    · have hlt' : (i0 : Int) < (n0 : Int) := by omega
      obtain ⟨ga, oa, csp, ea, -, x1, x2⟩ := HA0.out i0 hlt
      obtain ⟨gb, ob, csq, eb, -, y1, y2⟩ := HB0.out i0 hlt
      subst ea eb
      obtain ⟨r, hr⟩ : ∃ r, Hid (dec (pl.getD i0 default = ql.getD i0 default) = r) := ⟨_, rfl⟩
      have HQ : Hid (r = true → ∀ j, j < i0 + 1 → pl.getD j default = ql.getD j default) := hd (fun h j hj => by
        rcases Nat.lt_succ_iff_lt_or_eq.1 hj with h1 | h1
        · exact HP.out j h1
        · subst h1
          rw [← hr.out] at h
          by_cases hh : pl.getD j default = ql.getD j default
          · exact hh
          · rw [dec_no hh] at h; cases h)
      have HM : Hid (r = false → R = false) := hd (fun h => by
        have h0 := HN0.out i0 hlt (fun e => by rw [← hr.out, dec_yes e] at h; cases h)
        rw [hR.out, h0]
        all_goals simp)
      clear HP
      generalize pl.getD i0 default = x at *
      generalize ql.getD i0 default = y at *
      obtain ⟨p0, p1, p2⟩ := x
      obtain rfl : csp = [.int .i64 p0, .int .i64 p1, .int .i64 p2] := x1
      obtain ⟨q0, q1, q2⟩ := y
      obtain rfl : csq = [.int .i64 q0, .int .i64 q1, .int .i64 q2] := y1
      have HG : Hid (∀ W, Below wr.heap.size wr W → W.cell? ⟨B, 1, none⟩ = some (.slice (some ⟨ga, oa, none⟩) n0 lc0) ∧ W.cell? ⟨B1, 1, none⟩ = some (.slice (some ⟨gb, ob, none⟩) n0 ld0) ∧ W.cell? ⟨ga, oa + i0 * 3, none⟩ = some (.int .i64 p0) ∧ W.cell? ⟨ga, oa + i0 * 3 + 1, none⟩ = some (.int .i64 p1) ∧ W.cell? ⟨ga, oa + i0 * 3 + 2, none⟩ = some (.int .i64 p2) ∧ W.cell? ⟨gb, ob + i0 * 3, none⟩ = some (.int .i64 q0) ∧ W.cell? ⟨gb, ob + i0 * 3 + 1, none⟩ = some (.int .i64 q1) ∧ W.cell? ⟨gb, ob + i0 * 3 + 2, none⟩ = some (.int .i64 q2)) := hd (fun W hb => ⟨(HD.out W (hbw.out.trans (hb.mono hbw.out.size))).1, (HD.out W (hbw.out.trans (hb.mono hbw.out.size))).2.2.2.1, x2 W (hw.out.trans (hb.mono hw.out.size)) 0 _ rfl, x2 W (hw.out.trans (hb.mono hw.out.size)) 1 _ rfl, x2 W (hw.out.trans (hb.mono hw.out.size)) 2 _ rfl, y2 W (hw.out.trans (hb.mono hw.out.size)) 0 _ rfl, y2 W (hw.out.trans (hb.mono hw.out.size)) 1 _ rfl, y2 W (hw.out.trans (hb.mono hw.out.size)) 2 _ rfl⟩)
      obtain ⟨f0, f1, f2, f3, f4, f5, f6, f7⟩ := HG.out wr (below_same wr)
      clear x2 y2
      (try clear x1)
      (try clear y1)
      go_upto_region 6 with fail
      go_cut [62] (fun v62 wy => v62 = .bool (!r) ∧ Hid (Below W0.heap.size W0 wy))
      case first =>
        by_cases h0 : p0 = q0
        case neg =>
          have g0 : (p0 == q0) = false := by simpa using h0
          obtain rfl : r = false := hr.out.symm.trans (dec_no (by simp [h0]))
          clear HQ HM hr
          go_region_held3 (fun w' => w'.cell? ⟨B, 1, none⟩ = some (.slice (some ⟨ga, oa, none⟩) n0 lc0) ∧ w'.cell? ⟨B1, 1, none⟩ = some (.slice (some ⟨gb, ob, none⟩) n0 ld0) ∧ w'.cell? ⟨ga, oa + i0 * 3, none⟩ = some (.int .i64 p0) ∧ w'.cell? ⟨ga, oa + i0 * 3 + 1, none⟩ = some (.int .i64 p1) ∧ w'.cell? ⟨ga, oa + i0 * 3 + 2, none⟩ = some (.int .i64 p2) ∧ w'.cell? ⟨gb, ob + i0 * 3, none⟩ = some (.int .i64 q0) ∧ w'.cell? ⟨gb, ob + i0 * 3 + 1, none⟩ = some (.int .i64 q1) ∧ w'.cell? ⟨gb, ob + i0 * 3 + 2, none⟩ = some (.int .i64 q2)) (go_keep) (fail)
          all_goals (
            go_wp2_with fail
            go_meet
            case rel => exact ⟨rfl, hd (hbw.out.trans ((bel_drew wr).mono hbw.out.size))⟩)
        subst h0
        by_cases h1 : p1 = q1
        case neg =>
          have g1 : (p1 == q1) = false := by simpa using h1
          obtain rfl : r = false := hr.out.symm.trans (dec_no (by simp [h1]))
          clear HQ HM hr
          go_region_held3 (fun w' => w'.cell? ⟨B, 1, none⟩ = some (.slice (some ⟨ga, oa, none⟩) n0 lc0) ∧ w'.cell? ⟨B1, 1, none⟩ = some (.slice (some ⟨gb, ob, none⟩) n0 ld0) ∧ w'.cell? ⟨ga, oa + i0 * 3, none⟩ = some (.int .i64 p0) ∧ w'.cell? ⟨ga, oa + i0 * 3 + 1, none⟩ = some (.int .i64 p1) ∧ w'.cell? ⟨ga, oa + i0 * 3 + 2, none⟩ = some (.int .i64 p2) ∧ w'.cell? ⟨gb, ob + i0 * 3, none⟩ = some (.int .i64 p0) ∧ w'.cell? ⟨gb, ob + i0 * 3 + 1, none⟩ = some (.int .i64 q1) ∧ w'.cell? ⟨gb, ob + i0 * 3 + 2, none⟩ = some (.int .i64 q2)) (go_keep) (fail)
          all_goals (
            go_wp2_with fail
            go_meet
            case rel => exact ⟨rfl, hd (hbw.out.trans ((bel_drew wr).mono hbw.out.size))⟩)
        subst h1
        by_cases h2 : p2 = q2
        case neg =>
          have g2 : (p2 == q2) = false := by simpa using h2
          obtain rfl : r = false := hr.out.symm.trans (dec_no (by simp [h2]))
          clear HQ HM hr
          go_region_held3 (fun w' => w'.cell? ⟨B, 1, none⟩ = some (.slice (some ⟨ga, oa, none⟩) n0 lc0) ∧ w'.cell? ⟨B1, 1, none⟩ = some (.slice (some ⟨gb, ob, none⟩) n0 ld0) ∧ w'.cell? ⟨ga, oa + i0 * 3, none⟩ = some (.int .i64 p0) ∧ w'.cell? ⟨ga, oa + i0 * 3 + 1, none⟩ = some (.int .i64 p1) ∧ w'.cell? ⟨ga, oa + i0 * 3 + 2, none⟩ = some (.int .i64 p2) ∧ w'.cell? ⟨gb, ob + i0 * 3, none⟩ = some (.int .i64 p0) ∧ w'.cell? ⟨gb, ob + i0 * 3 + 1, none⟩ = some (.int .i64 p1) ∧ w'.cell? ⟨gb, ob + i0 * 3 + 2, none⟩ = some (.int .i64 q2)) (go_keep) (fail)
          all_goals (
            go_wp2_with fail
            go_meet
            case rel => exact ⟨rfl, hd (hbw.out.trans ((bel_drew wr).mono hbw.out.size))⟩)
        subst h2
        obtain rfl : r = true := hr.out.symm.trans (dec_yes rfl)
        clear HQ HM hr
        go_region_held3 (fun w' => w'.cell? ⟨B, 1, none⟩ = some (.slice (some ⟨ga, oa, none⟩) n0 lc0) ∧ w'.cell? ⟨B1, 1, none⟩ = some (.slice (some ⟨gb, ob, none⟩) n0 ld0) ∧ w'.cell? ⟨ga, oa + i0 * 3, none⟩ = some (.int .i64 p0) ∧ w'.cell? ⟨ga, oa + i0 * 3 + 1, none⟩ = some (.int .i64 p1) ∧ w'.cell? ⟨ga, oa + i0 * 3 + 2, none⟩ = some (.int .i64 p2) ∧ w'.cell? ⟨gb, ob + i0 * 3, none⟩ = some (.int .i64 p0) ∧ w'.cell? ⟨gb, ob + i0 * 3 + 1, none⟩ = some (.int .i64 p1) ∧ w'.cell? ⟨gb, ob + i0 * 3 + 2, none⟩ = some (.int .i64 p2)) (go_keep) (fail)
        all_goals (
          go_wp2_with fail
          go_meet
          case rel => exact ⟨rfl, hd (hbw.out.trans ((bel_drew wr).mono hbw.out.size))⟩)
      case rest =>
        obtain ⟨rfl, hbc⟩ := hcut
        clear HG hw
        clear f0 f1 f2 f3 f4 f5 f6 f7
        cases r
        · obtain rfl : R = false := HM.out rfl
          go_wp2_with fail
          go_ret
          exact ⟨rfl, HC.out _ hbc.out⟩
        · go_wp2_with fail
          go_roundg (gk - 1)
          case rel => exact ⟨i0 + 1, by go_num, by omega, hbc, hd (HQ.out (by trivial))⟩
          case measure => omega
    · obtain rfl : i0 = n0 := by omega
      have hrl := HY0.out HP.out
      rw [hrl] at hR
      simp only [Bool.true_and] at hR
      clear HP hrl hlt hik
      have hbw0 := hbw
      clear hbw hw
      obtain ⟨z0, z1, z2, z3, z4, z5⟩ := HD.out wr hbw0.out
      go_wp2_with fail
      clear z0 z1 z2 z3 z4 z5
      go_loopg [6] n1 (fun k v6 wr => ∃ (i1 : Nat), v6 = .int .i64 (i1 : Int) ∧ i1 + k = n1 ∧ Hid (Below W0.heap.size W0 wr) ∧ Hid (∀ j, j < i1 → pq.getD j default = qq.getD j default))
      case atStart => exact ⟨0, rfl, by omega, hbw0, hd (fun j hj => absurd hj (Nat.not_lt_zero j))⟩
      case round =>
        obtain ⟨i1, rfl, hik, hbw, HP⟩ := hrel
        have hw := hd (HC.out wr hbw.out)
        by_cases hlt : i1 < n1
        · have hlt' : (i1 : Int) < (n1 : Int) := by omega
          obtain ⟨ga, oa, csp, ea, -, x1, x2⟩ := HA1.out i1 hlt
          obtain ⟨gb, ob, csq, eb, -, y1, y2⟩ := HB1.out i1 hlt
          subst ea eb
          have hst : Calls Try.prog 25 #[csp.getD 0 undef, csq.getD 0 undef] wr.drew fun e w' => e = .returned (.bool (dec (pq.getD i1 default = qq.getD i1 default))) ∧ Below wr.drew.heap.size wr.drew w' := by
            obtain ⟨u, rfl, k1⟩ := x1
            obtain ⟨v, rfl, k2⟩ := y1
            exact rints_any (k1.below (hw.out.trans ((bel_drew wr).mono hw.out.size)) fun _ _ h => h) (k2.below (hw.out.trans ((bel_drew wr).mono hw.out.size)) fun _ _ h => h)
          obtain ⟨r, hr⟩ : ∃ r, Hid (dec (pq.getD i1 default = qq.getD i1 default) = r) := ⟨_, rfl⟩
          rw [hr.out] at hst
          have HQ : Hid (r = true → ∀ j, j < i1 + 1 → pq.getD j default = qq.getD j default) := hd (fun h j hj => by
            rcases Nat.lt_succ_iff_lt_or_eq.1 hj with h1 | h1
            · exact HP.out j h1
            · subst h1
              rw [← hr.out] at h
              by_cases hh : pq.getD j default = qq.getD j default
              · exact hh
              · rw [dec_no hh] at h; cases h)
          have HM : Hid (r = false → R = false) := hd (fun h => by
            have h0 := HN1.out i1 hlt (fun e => by rw [← hr.out, dec_yes e] at h; cases h)
            rw [hR.out, h0]
            all_goals simp)
          clear HP
          clear hr
          generalize pq.getD i1 default = x at *
          generalize qq.getD i1 default = y at *
          obtain ⟨vp, rfl, -⟩ := id x1
          obtain ⟨vq, rfl, -⟩ := id y1
          have HG : Hid (∀ W, Below wr.heap.size wr W → W.cell? ⟨B, 5, none⟩ = some (.slice (some ⟨ga, oa, none⟩) n1 lc1) ∧ W.cell? ⟨B1, 5, none⟩ = some (.slice (some ⟨gb, ob, none⟩) n1 ld1) ∧ W.cell? ⟨ga, oa + i1, none⟩ = some (vp) ∧ W.cell? ⟨gb, ob + i1, none⟩ = some (vq)) := hd (fun W hb => ⟨(HD.out W (hbw.out.trans (hb.mono hbw.out.size))).2.1, (HD.out W (hbw.out.trans (hb.mono hbw.out.size))).2.2.2.2.1, (by have := x2 W (hw.out.trans (hb.mono hw.out.size)) 0 _ rfl; simpa using this), (by have := y2 W (hw.out.trans (hb.mono hw.out.size)) 0 _ rfl; simpa using this)⟩)
          simp only [List.getD_cons_zero] at hst
          obtain ⟨f0, f1, f2, f3⟩ := HG.out wr (below_same wr)
          clear x2 y2
          (try clear x1)
          (try clear y1)
          go_upto_region 11 with fail
          go_cut [7] (fun v7 wy => v7 = .bool r ∧ Hid (Below W0.heap.size W0 wy))
          case first =>
            go_region_held3 (fun w' => w'.cell? ⟨B, 5, none⟩ = some (.slice (some ⟨ga, oa, none⟩) n1 lc1) ∧ w'.cell? ⟨B1, 5, none⟩ = some (.slice (some ⟨gb, ob, none⟩) n1 ld1) ∧ w'.cell? ⟨ga, oa + i1, none⟩ = some (vp) ∧ w'.cell? ⟨gb, ob + i1, none⟩ = some (vq)) (go_keep)
              (first | (go_at_call 25; (with_reducible refine hst.mono ?_); rintro e w2 ⟨rfl, hb2⟩; have hb2' := hd (bel_dr hb2); obtain ⟨e0, e1, e2, e3⟩ := HG.out w2 hb2'.out))
            all_goals (
              go_wp2_with fail
              go_meet
              case rel => exact ⟨rfl, hd (hbw.out.trans (hb2'.out.mono hbw.out.size))⟩)
          case rest =>
            obtain ⟨rfl, hbc⟩ := hcut
            clear HG hw
            clear f0 f1 f2 f3
            cases r
            · obtain rfl : R = false := HM.out rfl
              go_wp2_with fail
              go_ret
              exact ⟨rfl, HC.out _ hbc.out⟩
            · go_wp2_with fail
              go_roundg (gk - 1)
              case rel => exact ⟨i1 + 1, by go_num, by omega, hbc, hd (HQ.out (by trivial))⟩
              case measure => omega
        · obtain rfl : i1 = n1 := by omega
          have hrl := HY1.out HP.out
          rw [hrl] at hR
          simp only [Bool.true_and] at hR
          clear HP hrl hlt hik
          obtain ⟨z0, z1, z2, z3, z4, z5⟩ := HD.out wr hbw.out
          go_wp2_with (go_at_call 25; (with_reducible refine (HO.out wr hw.out).mono ?_); rintro e w2 ⟨rfl, hb2⟩)
          go_ret
          exact ⟨ret_bool (by rw [hR.out]), hw.out.trans (hb2.mono hw.out.size)⟩
end Go.Proofs.Ytjbmljheepomnaa
