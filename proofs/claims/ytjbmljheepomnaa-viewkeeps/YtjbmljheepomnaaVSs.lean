/- Two states. -/
import Derived.Test.YtjbmljheepomnaaVSp
import Derived.Test.YtjbmljheepomnaaVSr
import Derived.Test.YtjbmljheepomnaaVA7
import Derived.Test.YtjbmljheepomnaaVA8
namespace Go.Proofs.Ytjbmljheepomnaa
open Go.RowKit

theorem alike_pars {w : World} {va vb : Value} {xs ys : List (PtX)} (hA : DeR 6 pE w va xs) (hB : DeR 6 pE w vb ys) : Calls Try.prog 21 #[va, vb, .func (.func 22) #[] #[]] w fun e w' => e = .returned (.bool (dec (xs = ys))) ∧ Below w.heap.size w w' :=
  alike_par hA hB (fun W hW ca cb x y e1 e2 => by
    exact samePart_any e1 e2) (fun W cs x hb h => h.below hb)
theorem alike_pros {w : World} {va vb : Value} {xs ys : List (PrX)} (hA : DeR 15 rE w va xs) (hB : DeR 15 rE w vb ys) : Calls Try.prog 23 #[va, vb, .func (.func 24) #[] #[]] w fun e w' => e = .returned (.bool (dec (xs = ys))) ∧ Below w.heap.size w w' :=
  alike_pro hA hB (fun W hW ca cb x y e1 e2 => by
    exact sameProcess_any e1 e2) (fun W cs x hb h => h.below hb)
set_option maxRecDepth 100000 in
set_option maxHeartbeats 8000000 in
theorem same_any {w : World} {ca cb : List Value} {x y : StX} (h1 : sE w ca x) (h2 : sE w cb y) :
    Calls Try.prog 13 #[.agg ca.toArray, .agg cb.toArray] w fun e w' => e = .returned (.bool (dec (x = y))) ∧ Below w.heap.size w w' := by
  obtain ⟨pt, pp, pq⟩ := x
  obtain ⟨u, v, e1, k1, k2⟩ := h1
  simp only at e1 k1 k2
  subst e1
  obtain ⟨qt, qp, qq⟩ := y
  obtain ⟨u2, v2, e2, m1, m2⟩ := h2
  simp only at e2 m1 m2
  subst e2
  have HL0 : Hid (∀ V, Below w.heap.size w V → Calls Try.prog 21 #[u, u2, .func (.func 22) #[] #[]] V fun e w' => e = .returned (.bool (dec (pp = qp))) ∧ Below V.heap.size V w') := hd fun V hb => alike_pars (k1.below hb fun _ _ h => h.below hb) (m1.below hb fun _ _ h => h.below hb)
  have HL1 : Hid (∀ V, Below w.heap.size w V → Calls Try.prog 23 #[v, v2, .func (.func 24) #[] #[]] V fun e w' => e = .returned (.bool (dec (pq = qq))) ∧ Below V.heap.size V w') := hd fun V hb => alike_pros (k2.below hb fun _ _ h => h.below hb) (m2.below hb fun _ _ h => h.below hb)
  obtain ⟨R, hR⟩ : ∃ R, Hid (R = (dec (pt = qt) && (dec (pp = qp) && dec (pq = qq)))) := ⟨_, rfl⟩
  have hRR : dec ((StX.mk pt pp pq) = StX.mk qt qp qq) = R := by
    rw [hR.out, ← dec_and, ← dec_and]
    refine dec_iff ?_
    simp only [StX.mk.injEq]
    all_goals (constructor <;> (intro h; simp only [h, and_self]))
  rw [hRR]
  clear hRR k1 m1 k2 m2
  obtain ⟨r0, hr0⟩ : ∃ r, Hid (dec (pp = qp) = r) := ⟨_, rfl⟩
  rw [hr0.out] at HL0 hR
  clear hr0
  obtain ⟨r1, hr1⟩ : ∃ r, Hid (dec (pq = qq) = r) := ⟨_, rfl⟩
  rw [hr1.out] at HL1 hR
  clear hr1
  go_enter Try.func13, Try.ntmps13
  go_upto_region 1 with fail
  obtain ⟨h1, h2⟩ := two_box (w := w) #[.int .i64 pt, u, v] #[.int .i64 qt, u2, v2] 30
  obtain ⟨W0, hW0⟩ : ∃ W, Hid ((w.alloc (.cells #[.int .i64 pt, u, v] 30)).alloc (.cells #[.int .i64 qt, u2, v2] 30) = W) := ⟨_, rfl⟩
  rw [hW0.out] at h1 h2 ⊢
  obtain ⟨B, hB⟩ : ∃ n, Hid (w.heap.size = n) := ⟨_, rfl⟩
  obtain ⟨B1, hB1⟩ : ∃ n, Hid (B + 1 = n) := ⟨_, rfl⟩
  rw [hB.out, hB1.out] at h1
  rw [hB.out, hB1.out]
  have HBW := hd h2
  have HD : Hid (∀ V, Below W0.heap.size W0 V → V.cell? ⟨B, 0, none⟩ = some (.int .i64 pt) ∧ V.cell? ⟨B, 1, none⟩ = some (u) ∧ V.cell? ⟨B, 2, none⟩ = some (v) ∧ V.cell? ⟨B1, 0, none⟩ = some (.int .i64 qt) ∧ V.cell? ⟨B1, 1, none⟩ = some (u2) ∧ V.cell? ⟨B1, 2, none⟩ = some (v2)) := hd (fun V hb => by
    obtain ⟨e1, e2⟩ := h1 V hb
    exact ⟨box_at e1 rfl, box_at e1 rfl, box_at e1 rfl, box_at e2 rfl, box_at e2 rfl, box_at e2 rfl⟩)
  have HC : Hid (∀ V, Below W0.heap.size W0 V → Below w.heap.size w V) := hd (fun V hb => HBW.out.trans (hb.mono HBW.out.size))
  clear h1 h2 hW0
  obtain ⟨a0, a1, a2, b0, b1, b2⟩ := HD.out W0 (Below.refl _ _)
  by_cases hq0 : pt = qt
  case neg =>
    have g0 : (pt == qt) = false := by simpa using hq0
    have n0 := dec_no hq0
    rw [n0] at hR
    obtain rfl : R = false := by rw [hR.out]; simp
    clear hR n0
    go_wp2_with fail
    go_ret
    exact ⟨rfl, HC.out _ (Below.refl W0.heap.size W0)⟩
  subst hq0
  cases r0
  · obtain rfl : R = false := by rw [hR.out]; simp
    clear hR
    go_wp2_with (first | (go_at_call 21; (with_reducible refine (HL0.out W0 (HC.out _ (Below.refl W0.heap.size W0))).mono ?_); rintro e w1 ⟨rfl, b1x⟩; have bb1 := hd ((Below.refl W0.heap.size W0).trans (b1x.mono (Below.refl W0.heap.size W0).size)); obtain ⟨c10, c11, c12, c13, c14, c15⟩ := HD.out w1 bb1.out))
    go_ret
    exact ⟨rfl, HC.out _ bb1.out⟩
  go_wp2_with (first | (go_at_call 21; (with_reducible refine (HL0.out W0 (HC.out _ (Below.refl W0.heap.size W0))).mono ?_); rintro e w1 ⟨rfl, b1x⟩; have bb1 := hd ((Below.refl W0.heap.size W0).trans (b1x.mono (Below.refl W0.heap.size W0).size)); obtain ⟨c10, c11, c12, c13, c14, c15⟩ := HD.out w1 bb1.out) | (go_at_call 23; (with_reducible refine (HL1.out w1 (HC.out _ bb1.out)).mono ?_); rintro e w2 ⟨rfl, b2x⟩; have bb2 := hd (bb1.out.trans (b2x.mono bb1.out.size)); obtain ⟨c20, c21, c22, c23, c24, c25⟩ := HD.out w2 bb2.out))
  go_ret
  exact ⟨ret_bool (by rw [hR.out]; simp [dec_yes]), HC.out _ bb2.out⟩
end Go.Proofs.Ytjbmljheepomnaa
