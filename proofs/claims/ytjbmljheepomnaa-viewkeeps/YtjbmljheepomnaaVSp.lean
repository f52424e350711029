/- Two partitions. -/
import Derived.Test.YtjbmljheepomnaaVSq
import Derived.Test.YtjbmljheepomnaaVA3
import Derived.Test.YtjbmljheepomnaaVA5
namespace Go.Proofs.Ytjbmljheepomnaa
open Go.RowKit

theorem alike_ents {w : World} {va vb : Value} {xs ys : List (Int × Int × Int)} (hA : DeR 3 eE w va xs) (hB : DeR 3 eE w vb ys) : Calls Try.prog 35 #[va, vb, .func (.func 36) #[] #[]] w fun e w' => e = .returned (.bool (dec (xs = ys))) ∧ Below w.heap.size w w' :=
  alike_ent hA hB (fun W hW ca cb x y e1 e2 => by
    obtain rfl : ca = [.int .i64 x.1, .int .i64 x.2.1, .int .i64 x.2.2] := e1
    obtain rfl : cb = [.int .i64 y.1, .int .i64 y.2.1, .int .i64 y.2.2] := e2
    exact equal_ent x y W) (fun W cs x hb h => h)
theorem alike_ques {w : World} {va vb : Value} {xs ys : List (List Int)} (hA : DeR 1 qE w va xs) (hB : DeR 1 qE w vb ys) : Calls Try.prog 39 #[va, vb, .func (.func 40) #[] #[]] w fun e w' => e = .returned (.bool (dec (xs = ys))) ∧ Below w.heap.size w w' :=
  alike_que hA hB (fun W hW ca cb x y e1 e2 => by
    obtain ⟨u, rfl, k1⟩ := e1
    obtain ⟨v, rfl, k2⟩ := e2
    exact sameQueue_any k1 k2) (fun W cs x hb h => h.below hb)
set_option maxRecDepth 100000 in
set_option maxHeartbeats 8000000 in
theorem samePart_any {w : World} {ca cb : List Value} {x y : PtX} (h1 : pE w ca x) (h2 : pE w cb y) :
    Calls Try.prog 22 #[.agg ca.toArray, .agg cb.toArray] w fun e w' => e = .returned (.bool (dec (x = y))) ∧ Below w.heap.size w w' := by
  obtain ⟨p0, pl, p2, p3, po, pq⟩ := x
  obtain ⟨u, v, z, e1, k1, k2, k3⟩ := h1
  simp only at e1 k1 k2 k3
  subst e1
  obtain ⟨q0, ql, q2, q3, qo, qq⟩ := y
  obtain ⟨u2, v2, z2, e2, m1, m2, m3⟩ := h2
  simp only at e2 m1 m2 m3
  subst e2
  have HL0 : Hid (∀ V, Below w.heap.size w V → Calls Try.prog 35 #[u, u2, .func (.func 36) #[] #[]] V fun e w' => e = .returned (.bool (dec (pl = ql))) ∧ Below V.heap.size V w') := hd fun V hb => alike_ents (k1.below hb fun _ _ h => h) (m1.below hb fun _ _ h => h)
  have HL1 : Hid (∀ V, Below w.heap.size w V → Calls Try.prog 37 #[v, v2, .func (.func 38) #[] #[]] V fun e w' => e = .returned (.bool (dec (po = qo))) ∧ Below V.heap.size V w') := hd fun V hb => alike_ints (k2.below hb fun _ _ h => h) (m2.below hb fun _ _ h => h)
  have HL2 : Hid (∀ V, Below w.heap.size w V → Calls Try.prog 39 #[z, z2, .func (.func 40) #[] #[]] V fun e w' => e = .returned (.bool (dec (pq = qq))) ∧ Below V.heap.size V w') := hd fun V hb => alike_ques (k3.below hb fun _ _ h => h.below hb) (m3.below hb fun _ _ h => h.below hb)
  obtain ⟨R, hR⟩ : ∃ R, Hid (R = (dec (p0 = q0) && (dec (p2 = q2) && (dec (p3 = q3) && (dec (pl = ql) && (dec (po = qo) && dec (pq = qq))))))) := ⟨_, rfl⟩
  have hRR : dec ((PtX.mk p0 pl p2 p3 po pq) = PtX.mk q0 ql q2 q3 qo qq) = R := by
    rw [hR.out, ← dec_and, ← dec_and, ← dec_and, ← dec_and, ← dec_and]
    refine dec_iff ?_
    simp only [PtX.mk.injEq]
    all_goals (constructor <;> (intro h; simp only [h, and_self]))
  rw [hRR]
  clear hRR k1 m1 k2 m2 k3 m3
  obtain ⟨r0, hr0⟩ : ∃ r, Hid (dec (pl = ql) = r) := ⟨_, rfl⟩
  rw [hr0.out] at HL0 hR
  clear hr0
  obtain ⟨r1, hr1⟩ : ∃ r, Hid (dec (po = qo) = r) := ⟨_, rfl⟩
  rw [hr1.out] at HL1 hR
  clear hr1
  obtain ⟨r2, hr2⟩ : ∃ r, Hid (dec (pq = qq) = r) := ⟨_, rfl⟩
  rw [hr2.out] at HL2 hR
  clear hr2
  go_enter Try.func22, Try.ntmps22
  go_upto_region 1 with fail
  obtain ⟨h1, h2⟩ := two_box (w := w) #[.int .i64 p0, u, .int .i64 p2, .int .i64 p3, v, z] #[.int .i64 q0, u2, .int .i64 q2, .int .i64 q3, v2, z2] 43
  obtain ⟨W0, hW0⟩ : ∃ W, Hid ((w.alloc (.cells #[.int .i64 p0, u, .int .i64 p2, .int .i64 p3, v, z] 43)).alloc (.cells #[.int .i64 q0, u2, .int .i64 q2, .int .i64 q3, v2, z2] 43) = W) := ⟨_, rfl⟩
  rw [hW0.out] at h1 h2 ⊢
  obtain ⟨B, hB⟩ : ∃ n, Hid (w.heap.size = n) := ⟨_, rfl⟩
  obtain ⟨B1, hB1⟩ : ∃ n, Hid (B + 1 = n) := ⟨_, rfl⟩
  rw [hB.out, hB1.out] at h1
  rw [hB.out, hB1.out]
  have HBW := hd h2
  have HD : Hid (∀ V, Below W0.heap.size W0 V → V.cell? ⟨B, 0, none⟩ = some (.int .i64 p0) ∧ V.cell? ⟨B, 1, none⟩ = some (u) ∧ V.cell? ⟨B, 2, none⟩ = some (.int .i64 p2) ∧ V.cell? ⟨B, 3, none⟩ = some (.int .i64 p3) ∧ V.cell? ⟨B, 4, none⟩ = some (v) ∧ V.cell? ⟨B, 5, none⟩ = some (z) ∧ V.cell? ⟨B1, 0, none⟩ = some (.int .i64 q0) ∧ V.cell? ⟨B1, 1, none⟩ = some (u2) ∧ V.cell? ⟨B1, 2, none⟩ = some (.int .i64 q2) ∧ V.cell? ⟨B1, 3, none⟩ = some (.int .i64 q3) ∧ V.cell? ⟨B1, 4, none⟩ = some (v2) ∧ V.cell? ⟨B1, 5, none⟩ = some (z2)) := hd (fun V hb => by
    obtain ⟨e1, e2⟩ := h1 V hb
    exact ⟨box_at e1 rfl, box_at e1 rfl, box_at e1 rfl, box_at e1 rfl, box_at e1 rfl, box_at e1 rfl, box_at e2 rfl, box_at e2 rfl, box_at e2 rfl, box_at e2 rfl, box_at e2 rfl, box_at e2 rfl⟩)
  have HC : Hid (∀ V, Below W0.heap.size W0 V → Below w.heap.size w V) := hd (fun V hb => HBW.out.trans (hb.mono HBW.out.size))
  clear h1 h2 hW0
  obtain ⟨a0, a1, a2, a3, a4, a5, b0, b1, b2, b3, b4, b5⟩ := HD.out W0 (Below.refl _ _)
  by_cases hq0 : p0 = q0
  case neg =>
    have g0 : (p0 == q0) = false := by simpa using hq0
    have n0 := dec_no hq0
    rw [n0] at hR
    obtain rfl : R = false := by rw [hR.out]; simp
    clear hR n0
    go_wp2_with fail
    go_ret
    exact ⟨rfl, HC.out _ (Below.refl W0.heap.size W0)⟩
  subst hq0
  by_cases hq1 : p2 = q2
  case neg =>
    have g1 : (p2 == q2) = false := by simpa using hq1
    have n1 := dec_no hq1
    rw [n1] at hR
    obtain rfl : R = false := by rw [hR.out]; simp
    clear hR n1
    go_wp2_with fail
    go_ret
    exact ⟨rfl, HC.out _ (Below.refl W0.heap.size W0)⟩
  subst hq1
  by_cases hq2 : p3 = q3
  case neg =>
    have g2 : (p3 == q3) = false := by simpa using hq2
    have n2 := dec_no hq2
    rw [n2] at hR
    obtain rfl : R = false := by rw [hR.out]; simp
    clear hR n2
    go_wp2_with fail
    go_ret
    exact ⟨rfl, HC.out _ (Below.refl W0.heap.size W0)⟩
  subst hq2
  cases r0
  · obtain rfl : R = false := by rw [hR.out]; simp
    clear hR
    go_wp2_with (first | (go_at_call 35; (with_reducible refine (HL0.out W0 (HC.out _ (Below.refl W0.heap.size W0))).mono ?_); rintro e w1 ⟨rfl, b1x⟩; have bb1 := hd ((Below.refl W0.heap.size W0).trans (b1x.mono (Below.refl W0.heap.size W0).size)); obtain ⟨c10, c11, c12, c13, c14, c15, c16, c17, c18, c19, c110, c111⟩ := HD.out w1 bb1.out))
    go_ret
    exact ⟨rfl, HC.out _ bb1.out⟩
  cases r1
  · obtain rfl : R = false := by rw [hR.out]; simp
    clear hR
    go_wp2_with (first | (go_at_call 35; (with_reducible refine (HL0.out W0 (HC.out _ (Below.refl W0.heap.size W0))).mono ?_); rintro e w1 ⟨rfl, b1x⟩; have bb1 := hd ((Below.refl W0.heap.size W0).trans (b1x.mono (Below.refl W0.heap.size W0).size)); obtain ⟨c10, c11, c12, c13, c14, c15, c16, c17, c18, c19, c110, c111⟩ := HD.out w1 bb1.out) | (go_at_call 37; (with_reducible refine (HL1.out w1 (HC.out _ bb1.out)).mono ?_); rintro e w2 ⟨rfl, b2x⟩; have bb2 := hd (bb1.out.trans (b2x.mono bb1.out.size)); obtain ⟨c20, c21, c22, c23, c24, c25, c26, c27, c28, c29, c210, c211⟩ := HD.out w2 bb2.out))
    go_ret
    exact ⟨rfl, HC.out _ bb2.out⟩
  go_wp2_with (first | (go_at_call 35; (with_reducible refine (HL0.out W0 (HC.out _ (Below.refl W0.heap.size W0))).mono ?_); rintro e w1 ⟨rfl, b1x⟩; have bb1 := hd ((Below.refl W0.heap.size W0).trans (b1x.mono (Below.refl W0.heap.size W0).size)); obtain ⟨c10, c11, c12, c13, c14, c15, c16, c17, c18, c19, c110, c111⟩ := HD.out w1 bb1.out) | (go_at_call 37; (with_reducible refine (HL1.out w1 (HC.out _ bb1.out)).mono ?_); rintro e w2 ⟨rfl, b2x⟩; have bb2 := hd (bb1.out.trans (b2x.mono bb1.out.size)); obtain ⟨c20, c21, c22, c23, c24, c25, c26, c27, c28, c29, c210, c211⟩ := HD.out w2 bb2.out) | (go_at_call 39; (with_reducible refine (HL2.out w2 (HC.out _ bb2.out)).mono ?_); rintro e w3 ⟨rfl, b3x⟩; have bb3 := hd (bb2.out.trans (b3x.mono bb2.out.size)); obtain ⟨c30, c31, c32, c33, c34, c35, c36, c37, c38, c39, c310, c311⟩ := HD.out w3 bb3.out))
  go_ret
  exact ⟨ret_bool (by rw [hR.out]; simp [dec_yes]), HC.out _ bb3.out⟩
end Go.Proofs.Ytjbmljheepomnaa
