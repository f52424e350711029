/- Two lanes. -/
import Derived.Test.YtjbmljheepomnaaVS0
import Derived.Test.YtjbmljheepomnaaVA2
import Derived.Test.YtjbmljheepomnaaVA4
namespace Go.Proofs.Ytjbmljheepomnaa
open Go.RowKit

theorem alike_i64s {w : World} {va vb : Value} {xs ys : List (Int)} (hA : DeR 1 iE w va xs) (hB : DeR 1 iE w vb ys) : Calls Try.prog 44 #[va, vb, .func (.func 45) #[] #[]] w fun e w' => e = .returned (.bool (dec (xs = ys))) ∧ Below w.heap.size w w' :=
  alike_i64 hA hB (fun W hW ca cb x y e1 e2 => by
    obtain rfl : ca = [.int .i64 x] := e1
    obtain rfl : cb = [.int .i64 y] := e2
    exact equal_i64 x y W) (fun W cs x hb h => h)
theorem alike_wais {w : World} {va vb : Value} {xs ys : List (Int × Int)} (hA : DeR 2 wE w va xs) (hB : DeR 2 wE w vb ys) : Calls Try.prog 46 #[va, vb, .func (.func 47) #[] #[]] w fun e w' => e = .returned (.bool (dec (xs = ys))) ∧ Below w.heap.size w w' :=
  alike_wai hA hB (fun W hW ca cb x y e1 e2 => by
    obtain rfl : ca = [.int .i64 x.1, .int .i64 x.2] := e1
    obtain rfl : cb = [.int .i64 y.1, .int .i64 y.2] := e2
    exact equal_wai x y W) (fun W cs x hb h => h)
set_option maxRecDepth 100000 in
set_option maxHeartbeats 8000000 in
theorem sameLane_any {w : World} {ca cb : List Value} {x y : LnX} (h1 : lE w ca x) (h2 : lE w cb y) :
    Calls Try.prog 42 #[.agg ca.toArray, .agg cb.toArray] w fun e w' => e = .returned (.bool (dec (x = y))) ∧ Below w.heap.size w w' := by
  obtain ⟨pv, pw, pt, pd⟩ := x
  obtain ⟨u, v, e1, k1, k2⟩ := h1
  simp only at e1 k1 k2
  subst e1
  obtain ⟨qv, qw, qt, qd⟩ := y
  obtain ⟨u2, v2, e2, m1, m2⟩ := h2
  simp only at e2 m1 m2
  subst e2
  have HL0 : Hid (∀ V, Below w.heap.size w V → Calls Try.prog 44 #[u, u2, .func (.func 45) #[] #[]] V fun e w' => e = .returned (.bool (dec (pv = qv))) ∧ Below V.heap.size V w') := hd fun V hb => alike_i64s (k1.below hb fun _ _ h => h) (m1.below hb fun _ _ h => h)
  have HL1 : Hid (∀ V, Below w.heap.size w V → Calls Try.prog 46 #[v, v2, .func (.func 47) #[] #[]] V fun e w' => e = .returned (.bool (dec (pw = qw))) ∧ Below V.heap.size V w') := hd fun V hb => alike_wais (k2.below hb fun _ _ h => h) (m2.below hb fun _ _ h => h)
  obtain ⟨R, hR⟩ : ∃ R, Hid (R = (dec (pt = qt) && (dec (pd = qd) && (dec (pv = qv) && dec (pw = qw))))) := ⟨_, rfl⟩
  have hRR : dec ((LnX.mk pv pw pt pd) = LnX.mk qv qw qt qd) = R := by
    rw [hR.out, ← dec_and, ← dec_and, ← dec_and]
    refine dec_iff ?_
    simp only [LnX.mk.injEq]
    all_goals (constructor <;> (intro h; simp only [h, and_self]))
  rw [hRR]
  clear hRR k1 m1 k2 m2
  obtain ⟨r0, hr0⟩ : ∃ r, Hid (dec (pv = qv) = r) := ⟨_, rfl⟩
  rw [hr0.out] at HL0 hR
  clear hr0
  obtain ⟨r1, hr1⟩ : ∃ r, Hid (dec (pw = qw) = r) := ⟨_, rfl⟩
  rw [hr1.out] at HL1 hR
  clear hr1
  go_enter Try.func42, Try.ntmps42
  go_upto_region 1 with fail
  obtain ⟨h1, h2⟩ := two_box (w := w) #[u, v, .int .i64 pt, .int .i64 pd] #[u2, v2, .int .i64 qt, .int .i64 qd] 53
  obtain ⟨W0, hW0⟩ : ∃ W, Hid ((w.alloc (.cells #[u, v, .int .i64 pt, .int .i64 pd] 53)).alloc (.cells #[u2, v2, .int .i64 qt, .int .i64 qd] 53) = W) := ⟨_, rfl⟩
  rw [hW0.out] at h1 h2 ⊢
  obtain ⟨B, hB⟩ : ∃ n, Hid (w.heap.size = n) := ⟨_, rfl⟩
  obtain ⟨B1, hB1⟩ : ∃ n, Hid (B + 1 = n) := ⟨_, rfl⟩
  rw [hB.out, hB1.out] at h1
  rw [hB.out, hB1.out]
  have HBW := hd h2
  have HD : Hid (∀ V, Below W0.heap.size W0 V → V.cell? ⟨B, 0, none⟩ = some (u) ∧ V.cell? ⟨B, 1, none⟩ = some (v) ∧ V.cell? ⟨B, 2, none⟩ = some (.int .i64 pt) ∧ V.cell? ⟨B, 3, none⟩ = some (.int .i64 pd) ∧ V.cell? ⟨B1, 0, none⟩ = some (u2) ∧ V.cell? ⟨B1, 1, none⟩ = some (v2) ∧ V.cell? ⟨B1, 2, none⟩ = some (.int .i64 qt) ∧ V.cell? ⟨B1, 3, none⟩ = some (.int .i64 qd)) := hd (fun V hb => by
    obtain ⟨e1, e2⟩ := h1 V hb
    exact ⟨box_at e1 rfl, box_at e1 rfl, box_at e1 rfl, box_at e1 rfl, box_at e2 rfl, box_at e2 rfl, box_at e2 rfl, box_at e2 rfl⟩)
  have HC : Hid (∀ V, Below W0.heap.size W0 V → Below w.heap.size w V) := hd (fun V hb => HBW.out.trans (hb.mono HBW.out.size))
  clear h1 h2 hW0
  obtain ⟨a0, a1, a2, a3, b0, b1, b2, b3⟩ := HD.out W0 (Below.refl _ _)
  by_cases hq0 : pt = qt
  case neg =>
    have g0 : (pt == qt) = false := by simpa using hq0
    have n0 := dec_no hq0
    rw [n0] at hR
    obtain rfl : R = false := by rw [hR.out]; simp
    clear hR n0
    go_wp2_with fail
    go_ret
    exact ⟨rfl, HC.out _ (Below.refl W0.heap.size W0)⟩
  subst hq0
  by_cases hq1 : pd = qd
  case neg =>
    have g1 : (pd == qd) = false := by simpa using hq1
    have n1 := dec_no hq1
    rw [n1] at hR
    obtain rfl : R = false := by rw [hR.out]; simp
    clear hR n1
    go_wp2_with fail
    go_ret
    exact ⟨rfl, HC.out _ (Below.refl W0.heap.size W0)⟩
  subst hq1
  cases r0
  · obtain rfl : R = false := by rw [hR.out]; simp
    clear hR
    go_wp2_with (first | (go_at_call 44; (with_reducible refine (HL0.out W0 (HC.out _ (Below.refl W0.heap.size W0))).mono ?_); rintro e w1 ⟨rfl, b1x⟩; have bb1 := hd ((Below.refl W0.heap.size W0).trans (b1x.mono (Below.refl W0.heap.size W0).size)); obtain ⟨c10, c11, c12, c13, c14, c15, c16, c17⟩ := HD.out w1 bb1.out))
    go_ret
    exact ⟨rfl, HC.out _ bb1.out⟩
  go_wp2_with (first | (go_at_call 44; (with_reducible refine (HL0.out W0 (HC.out _ (Below.refl W0.heap.size W0))).mono ?_); rintro e w1 ⟨rfl, b1x⟩; have bb1 := hd ((Below.refl W0.heap.size W0).trans (b1x.mono (Below.refl W0.heap.size W0).size)); obtain ⟨c10, c11, c12, c13, c14, c15, c16, c17⟩ := HD.out w1 bb1.out) | (go_at_call 46; (with_reducible refine (HL1.out w1 (HC.out _ bb1.out)).mono ?_); rintro e w2 ⟨rfl, b2x⟩; have bb2 := hd (bb1.out.trans (b2x.mono bb1.out.size)); obtain ⟨c20, c21, c22, c23, c24, c25, c26, c27⟩ := HD.out w2 bb2.out))
  go_ret
  exact ⟨ret_bool (by rw [hR.out]; simp [dec_yes]), HC.out _ bb2.out⟩
end Go.Proofs.Ytjbmljheepomnaa
