/- Two processes. -/
import Derived.Test.YtjbmljheepomnaaVSl
import Derived.Test.YtjbmljheepomnaaVA6
namespace Go.Proofs.Ytjbmljheepomnaa
open Go.RowKit

theorem alike_lans {w : World} {va vb : Value} {xs ys : List (LnX)} (hA : DeR 4 lE w va xs) (hB : DeR 4 lE w vb ys) : Calls Try.prog 41 #[va, vb, .func (.func 42) #[] #[]] w fun e w' => e = .returned (.bool (dec (xs = ys))) ∧ Below w.heap.size w w' :=
  alike_lan hA hB (fun W hW ca cb x y e1 e2 => by
    exact sameLane_any e1 e2) (fun W cs x hb h => h.below hb)
set_option maxRecDepth 100000 in
set_option maxHeartbeats 8000000 in
theorem sameProcess_any {w : World} {ca cb : List Value} {x y : PrX} (h1 : rE w ca x) (h2 : rE w cb y) :
    Calls Try.prog 24 #[.agg ca.toArray, .agg cb.toArray] w fun e w' => e = .returned (.bool (dec (x = y))) ∧ Below w.heap.size w w' := by
  obtain ⟨ps, pp, ⟨p0, p1, p2, p3, p4, p5, p6, p7⟩, pc, pi, pf, pw, pl⟩ := x
  obtain ⟨v, e1, k1⟩ := h1
  simp only at e1 k1
  subst e1
  obtain ⟨qs, qp, ⟨q0, q1, q2, q3, q4, q5, q6, q7⟩, qc, qi, qf, qw, ql⟩ := y
  obtain ⟨v2, e2, m1⟩ := h2
  simp only at e2 m1
  subst e2
  have HL0 : Hid (∀ V, Below w.heap.size w V → Calls Try.prog 41 #[v, v2, .func (.func 42) #[] #[]] V fun e w' => e = .returned (.bool (dec (pl = ql))) ∧ Below V.heap.size V w') := hd fun V hb => alike_lans (k1.below hb fun _ _ h => h.below hb) (m1.below hb fun _ _ h => h.below hb)
  obtain ⟨R, hR⟩ : ∃ R, Hid (R = (dec (ps = qs) && (dec (pp = qp) && (dec ((Rg.mk p0 p1 p2 p3 p4 p5 p6 p7) = (Rg.mk q0 q1 q2 q3 q4 q5 q6 q7)) && (dec (pc = qc) && (dec (pi = qi) && (dec (pf = qf) && (dec (pw = qw) && dec (pl = ql))))))))) := ⟨_, rfl⟩
  have hRR : dec ((PrX.mk ps pp (Rg.mk p0 p1 p2 p3 p4 p5 p6 p7) pc pi pf pw pl) = PrX.mk qs qp (Rg.mk q0 q1 q2 q3 q4 q5 q6 q7) qc qi qf qw ql) = R := by
    rw [hR.out, ← dec_and, ← dec_and, ← dec_and, ← dec_and, ← dec_and, ← dec_and, ← dec_and]
    refine dec_iff ?_
    simp only [PrX.mk.injEq]
    all_goals (constructor <;> (intro h; simp only [h, and_self]))
  rw [hRR]
  clear hRR k1 m1
  obtain ⟨r0, hr0⟩ : ∃ r, Hid (dec (pl = ql) = r) := ⟨_, rfl⟩
  rw [hr0.out] at HL0 hR
  clear hr0
  obtain ⟨rr, hrr⟩ : ∃ r, Hid (dec ((Rg.mk p0 p1 p2 p3 p4 p5 p6 p7) = (Rg.mk q0 q1 q2 q3 q4 q5 q6 q7)) = r) := ⟨_, rfl⟩
  have heq := fun W => eq8 (Rg.mk p0 p1 p2 p3 p4 p5 p6 p7) (Rg.mk q0 q1 q2 q3 q4 q5 q6 q7) W
  rw [hrr.out] at heq hR
  clear hrr
  unfold rgA at heq
  simp only at heq
  go_enter Try.func24, Try.ntmps24
  go_upto_region 1 with fail
  obtain ⟨h1, h2⟩ := two_box (w := w) #[.int .i64 ps, .int .i64 pp, .int .i64 p0, .int .i64 p1, .int .i64 p2, .int .i64 p3, .int .i64 p4, .int .i64 p5, .int .i64 p6, .int .i64 p7, .int .i64 pc, .int .i64 pi, .bool pf, .int .i64 pw, v] #[.int .i64 qs, .int .i64 qp, .int .i64 q0, .int .i64 q1, .int .i64 q2, .int .i64 q3, .int .i64 q4, .int .i64 q5, .int .i64 q6, .int .i64 q7, .int .i64 qc, .int .i64 qi, .bool qf, .int .i64 qw, v2] 49
  obtain ⟨W0, hW0⟩ : ∃ W, Hid ((w.alloc (.cells #[.int .i64 ps, .int .i64 pp, .int .i64 p0, .int .i64 p1, .int .i64 p2, .int .i64 p3, .int .i64 p4, .int .i64 p5, .int .i64 p6, .int .i64 p7, .int .i64 pc, .int .i64 pi, .bool pf, .int .i64 pw, v] 49)).alloc (.cells #[.int .i64 qs, .int .i64 qp, .int .i64 q0, .int .i64 q1, .int .i64 q2, .int .i64 q3, .int .i64 q4, .int .i64 q5, .int .i64 q6, .int .i64 q7, .int .i64 qc, .int .i64 qi, .bool qf, .int .i64 qw, v2] 49) = W) := ⟨_, rfl⟩
  rw [hW0.out] at h1 h2 ⊢
  obtain ⟨B, hB⟩ : ∃ n, Hid (w.heap.size = n) := ⟨_, rfl⟩
  obtain ⟨B1, hB1⟩ : ∃ n, Hid (B + 1 = n) := ⟨_, rfl⟩
  rw [hB.out, hB1.out] at h1
  rw [hB.out, hB1.out]
  have HBW := hd h2
  have HD : Hid (∀ V, Below W0.heap.size W0 V → V.cell? ⟨B, 0, none⟩ = some (.int .i64 ps) ∧ V.cell? ⟨B, 1, none⟩ = some (.int .i64 pp) ∧ V.cell? ⟨B, 2, none⟩ = some (.int .i64 p0) ∧ V.cell? ⟨B, 3, none⟩ = some (.int .i64 p1) ∧ V.cell? ⟨B, 4, none⟩ = some (.int .i64 p2) ∧ V.cell? ⟨B, 5, none⟩ = some (.int .i64 p3) ∧ V.cell? ⟨B, 6, none⟩ = some (.int .i64 p4) ∧ V.cell? ⟨B, 7, none⟩ = some (.int .i64 p5) ∧ V.cell? ⟨B, 8, none⟩ = some (.int .i64 p6) ∧ V.cell? ⟨B, 9, none⟩ = some (.int .i64 p7) ∧ V.cell? ⟨B, 10, none⟩ = some (.int .i64 pc) ∧ V.cell? ⟨B, 11, none⟩ = some (.int .i64 pi) ∧ V.cell? ⟨B, 12, none⟩ = some (.bool pf) ∧ V.cell? ⟨B, 13, none⟩ = some (.int .i64 pw) ∧ V.cell? ⟨B, 14, none⟩ = some (v) ∧ V.cell? ⟨B1, 0, none⟩ = some (.int .i64 qs) ∧ V.cell? ⟨B1, 1, none⟩ = some (.int .i64 qp) ∧ V.cell? ⟨B1, 2, none⟩ = some (.int .i64 q0) ∧ V.cell? ⟨B1, 3, none⟩ = some (.int .i64 q1) ∧ V.cell? ⟨B1, 4, none⟩ = some (.int .i64 q2) ∧ V.cell? ⟨B1, 5, none⟩ = some (.int .i64 q3) ∧ V.cell? ⟨B1, 6, none⟩ = some (.int .i64 q4) ∧ V.cell? ⟨B1, 7, none⟩ = some (.int .i64 q5) ∧ V.cell? ⟨B1, 8, none⟩ = some (.int .i64 q6) ∧ V.cell? ⟨B1, 9, none⟩ = some (.int .i64 q7) ∧ V.cell? ⟨B1, 10, none⟩ = some (.int .i64 qc) ∧ V.cell? ⟨B1, 11, none⟩ = some (.int .i64 qi) ∧ V.cell? ⟨B1, 12, none⟩ = some (.bool qf) ∧ V.cell? ⟨B1, 13, none⟩ = some (.int .i64 qw) ∧ V.cell? ⟨B1, 14, none⟩ = some (v2)) := hd (fun V hb => by
    obtain ⟨e1, e2⟩ := h1 V hb
    exact ⟨box_at e1 rfl, box_at e1 rfl, box_at e1 rfl, box_at e1 rfl, box_at e1 rfl, box_at e1 rfl, box_at e1 rfl, box_at e1 rfl, box_at e1 rfl, box_at e1 rfl, box_at e1 rfl, box_at e1 rfl, box_at e1 rfl, box_at e1 rfl, box_at e1 rfl, box_at e2 rfl, box_at e2 rfl, box_at e2 rfl, box_at e2 rfl, box_at e2 rfl, box_at e2 rfl, box_at e2 rfl, box_at e2 rfl, box_at e2 rfl, box_at e2 rfl, box_at e2 rfl, box_at e2 rfl, box_at e2 rfl, box_at e2 rfl, box_at e2 rfl⟩)
  have HC : Hid (∀ V, Below W0.heap.size W0 V → Below w.heap.size w V) := hd (fun V hb => HBW.out.trans (hb.mono HBW.out.size))
  clear h1 h2 hW0
  obtain ⟨a0, a1, a2, a3, a4, a5, a6, a7, a8, a9, a10, a11, a12, a13, a14, b0, b1, b2, b3, b4, b5, b6, b7, b8, b9, b10, b11, b12, b13, b14⟩ := HD.out W0 (Below.refl _ _)
  by_cases hq0 : ps = qs
  case neg =>
    have g0 : (ps == qs) = false := by simpa using hq0
    have n0 := dec_no hq0
    rw [n0] at hR
    obtain rfl : R = false := by rw [hR.out]; simp
    clear hR n0
    go_wp2_with fail
    go_ret
    exact ⟨rfl, HC.out _ (Below.refl W0.heap.size W0)⟩
  subst hq0
  by_cases hq1 : pp = qp
  case neg =>
    have g1 : (pp == qp) = false := by simpa using hq1
    have n1 := dec_no hq1
    rw [n1] at hR
    obtain rfl : R = false := by rw [hR.out]; simp
    clear hR n1
    go_wp2_with fail
    go_ret
    exact ⟨rfl, HC.out _ (Below.refl W0.heap.size W0)⟩
  subst hq1
  cases rr
  · obtain rfl : R = false := by rw [hR.out]; simp
    clear hR
    go_wp2_with fail
    go_ret
    exact ⟨rfl, HC.out _ (Below.refl W0.heap.size W0)⟩
  by_cases hq3 : pc = qc
  case neg =>
    have g3 : (pc == qc) = false := by simpa using hq3
    have n3 := dec_no hq3
    rw [n3] at hR
    obtain rfl : R = false := by rw [hR.out]; simp
    clear hR n3
    go_wp2_with fail
    go_ret
    exact ⟨rfl, HC.out _ (Below.refl W0.heap.size W0)⟩
  subst hq3
  by_cases hq4 : pi = qi
  case neg =>
    have g4 : (pi == qi) = false := by simpa using hq4
    have n4 := dec_no hq4
    rw [n4] at hR
    obtain rfl : R = false := by rw [hR.out]; simp
    clear hR n4
    go_wp2_with fail
    go_ret
    exact ⟨rfl, HC.out _ (Below.refl W0.heap.size W0)⟩
  subst hq4
  by_cases hq5 : pf = qf
  case neg =>
    have g5 : (pf == qf) = false := by simpa using hq5
    have n5 := dec_no hq5
    rw [n5] at hR
    obtain rfl : R = false := by rw [hR.out]; simp
    clear hR n5
    go_wp2_with fail
    go_ret
    exact ⟨rfl, HC.out _ (Below.refl W0.heap.size W0)⟩
  subst hq5
  by_cases hq6 : pw = qw
  case neg =>
    have g6 : (pw == qw) = false := by simpa using hq6
    have n6 := dec_no hq6
    rw [n6] at hR
    obtain rfl : R = false := by rw [hR.out]; simp
    clear hR n6
    go_wp2_with fail
    go_ret
    exact ⟨rfl, HC.out _ (Below.refl W0.heap.size W0)⟩
  subst hq6
  go_wp2_with (first | (go_at_call 41; (with_reducible refine (HL0.out W0 (HC.out _ (Below.refl W0.heap.size W0))).mono ?_); rintro e w1 ⟨rfl, b1x⟩; have bb1 := hd ((Below.refl W0.heap.size W0).trans (b1x.mono (Below.refl W0.heap.size W0).size)); obtain ⟨c10, c11, c12, c13, c14, c15, c16, c17, c18, c19, c110, c111, c112, c113, c114, c115, c116, c117, c118, c119, c120, c121, c122, c123, c124, c125, c126, c127, c128, c129⟩ := HD.out w1 bb1.out))
  go_ret
  exact ⟨ret_bool (by rw [hR.out]; simp [dec_yes]), HC.out _ bb1.out⟩
end Go.Proofs.Ytjbmljheepomnaa
