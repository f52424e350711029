/- The document's product and order of two floats. -/
import Derived.Test.YtadlppllbebkdaaGreatDoorW26
import Derived.Deep.CutRange
import Derived.Deep.MidRow
namespace Go.Proofs.YtadlppllbebkdaaGreatDoor
open Go.RowKit

/-- The conditions of a rung, in the walk's spelling. -/
theorem rung_tests (a : Nat) : (decide ((rungOf a : Int) > 9218868437227405312) = decide (INF < rungOf a)) ∧ (decide ((9218868437227405312 : Int) < (rungOf a : Int)) = decide (INF < rungOf a)) ∧ (((rungOf a : Int) == 9218868437227405312) = decide (rungOf a = INF)) ∧ (((rungOf a : Int) == 0) = decide (rungOf a = 0)) := by
  have hI : INF = 9218868437227405312 := rfl
  refine ⟨decide_eq_decide.2 (by omega), decide_eq_decide.2 (by omega), ?_, ?_⟩
  · rw [Bool.eq_iff_iff, beq_iff_eq, decide_eq_true_iff]; omega
  · rw [Bool.eq_iff_iff, beq_iff_eq, decide_eq_true_iff]; omega

set_option maxRecDepth 100000 in
set_option maxHeartbeats 4000000 in
theorem mul_any (a b : Nat) (ha : a < 18446744073709551616) (hb : b < 18446744073709551616) (w : World) :
    Calls Tryz.prog 24 #[.int .u64 a, .int .u64 b] w fun e w' => e = .returned (.int .u64 (fmul a b : Nat)) ∧ Below w.heap.size w w' := by
  have hI : INF = 9218868437227405312 := rfl
  have rA := rung_bits a ha
  have rB := rung_bits b hb
  obtain ⟨X, eX, eS⟩ := xor_bits a b ha hb
  obtain ⟨x, hx⟩ : ∃ x, rungOf a = x := ⟨_, rfl⟩
  obtain ⟨y, hy⟩ : ∃ x, rungOf b = x := ⟨_, rfl⟩
  obtain ⟨sg, hs⟩ : ∃ s, (negOf a ^^ negOf b) = s := ⟨_, rfl⟩
  obtain ⟨W, hW⟩ : ∃ W, fmul a b = W := ⟨_, rfl⟩
  rw [hW]
  rw [hx] at rA
  rw [hy] at rB
  rw [hs] at eS
  have HX := Lib.hid hx
  have HY := Lib.hid hy
  have HS := Lib.hid hs
  have HW := Lib.hid hW
  clear hx hy hs hW
  by_cases c1 : INF < x
  · have d1 : (x : Int) > 9218868437227405312 := by omega
    have hw : W = NAN := by rw [← HW.out, fmul_of_nan a b (.inl (by rw [HX.out]; exact c1))]
    subst hw
    clear HW
    go_enter Tryz.func24, Tryz.ntmps24
    go_wp2_with fail
    go_ret
    exact ⟨rfl, Below.refl _ _⟩
  · have d1 : decide ((x : Int) > 9218868437227405312) = false := by simp; omega
    by_cases c2 : INF < y
    · have d2 : (y : Int) > 9218868437227405312 := by omega
      have hw : W = NAN := by rw [← HW.out, fmul_of_nan a b (.inr (by rw [HY.out]; exact c2))]
      subst hw
      clear HW
      go_enter Tryz.func24, Tryz.ntmps24
      go_wp2_with fail
      go_ret
      exact ⟨rfl, Below.refl _ _⟩
    · have d2 : decide ((y : Int) > 9218868437227405312) = false := by simp; omega
      by_cases c3 : x = INF
      · have d3 : ((x : Int) == 9218868437227405312) = true := by simp; omega
        by_cases c4 : y = 0
        · have d4 : ((y : Int) == 0) = true := by simp; omega
          have hw : W = NAN := by
            rw [← HW.out]; unfold fmul
            rw [mul_inf_zero a b (by rw [HX.out]; exact c3) (by rw [HY.out]; exact c4)]; rfl
          subst hw
          clear HW c3 c4
          go_enter Tryz.func24, Tryz.ntmps24
          go_wp2_with fail
          go_ret
          exact ⟨rfl, Below.refl _ _⟩
        · have d4 : ((y : Int) == 0) = false := by simp; omega
          have d5 : ((x : Int) == 0) = false := by simp; omega
          have hw : W = Ieee.double.word sg INF := by
            rw [← HW.out]; unfold fmul
            rw [mul_inf a b (by rw [HX.out]; exact c3) (by rw [HY.out]; omega) (by rw [HY.out]; exact c4), HS.out]; rfl
          have eo := or_sgn sg INF (by decide)
          rw [← hw] at eo
          have eo2 : bits .or .u64 (sgn sg : Nat) 9218868437227405312 = (W : Int) := eo
          clear HW hw c3 c4 eo
          go_enter Tryz.func24, Tryz.ntmps24
          go_wp2_with fail
          go_ret
          exact ⟨rfl, Below.refl _ _⟩
      · have d3 : ((x : Int) == 9218868437227405312) = false := by simp; omega
        by_cases c4 : y = INF
        · have d4 : ((y : Int) == 9218868437227405312) = true := by simp; omega
          by_cases c5 : x = 0
          · have d5 : ((x : Int) == 0) = true := by simp; omega
            have hw : W = NAN := by
              rw [← HW.out, fmul_comm]; unfold fmul
              rw [mul_inf_zero b a (by rw [HY.out]; exact c4) (by rw [HX.out]; exact c5)]; rfl
            subst hw
            clear HW c3 c4 c5
            go_enter Tryz.func24, Tryz.ntmps24
            go_wp2_with fail
            go_ret
            exact ⟨rfl, Below.refl _ _⟩
          · have d5 : ((x : Int) == 0) = false := by simp; omega
            have hw : W = Ieee.double.word sg INF := by
              rw [← HW.out, fmul_comm]; unfold fmul
              rw [mul_inf b a (by rw [HY.out]; exact c4) (by rw [HX.out]; omega) (by rw [HX.out]; exact c5), Bool.xor_comm, HS.out]; rfl
            have eo := or_sgn sg INF (by decide)
            rw [← hw] at eo
            have eo2 : bits .or .u64 (sgn sg : Nat) 9218868437227405312 = (W : Int) := eo
            clear HW hw c3 c4 eo c5
            go_enter Tryz.func24, Tryz.ntmps24
            go_wp2_with fail
            go_ret
            exact ⟨rfl, Below.refl _ _⟩
        · have d4 : ((y : Int) == 9218868437227405312) = false := by simp; omega
          obtain ⟨e, he⟩ : ∃ e, e = (expOf (rungOf a) : Int) - 1074 := ⟨_, rfl⟩
          obtain ⟨f, hf⟩ : ∃ e, e = (expOf (rungOf b) : Int) - 1074 := ⟨_, rfl⟩
          have hxa : rungOf a < INF := by rw [HX.out]; omega
          have hyb : rungOf b < INF := by rw [HY.out]; omega
          have hw := mul_ref a b hxa hyb e f he hf
          obtain ⟨m, hm⟩ : ∃ m, magOf (rungOf a) = m := ⟨_, rfl⟩
          obtain ⟨n, hn⟩ : ∃ m, magOf (rungOf b) = m := ⟨_, rfl⟩
          have hm2 : m < 9007199254740992 := by rw [← hm]; exact (mag_exp _ hxa).1
          have hn2 : n < 9007199254740992 := by rw [← hn]; exact (mag_exp _ hyb).1
          have he2 := (mag_exp _ hxa).2
          have hf2 := (mag_exp _ hyb).2
          have p1 := parts_any x (by omega)
          have p2 := parts_any y (by omega)
          rw [← HX.out, hm, ← he, HX.out] at p1
          rw [← HY.out, hn, ← hf, HY.out] at p2
          rw [HW.out, hm, hn, HS.out] at hw
          have hef1 : -2500 ≤ e + f := by omega
          have hef2 : e + f ≤ 2500 := by omega
          have he3 : -1074 ≤ e ∧ e ≤ 1000 := by omega
          have hf3 : -1074 ≤ f ∧ f ≤ 1000 := by omega
          have hmn : m * n < BB ^ 80 := by
            have h1 : m * n ≤ 9007199254740992 * 9007199254740992 := Nat.mul_le_mul (by omega) (by omega)
            exact upBB _ 4 80 (Nat.lt_of_le_of_lt h1 (by decide)) (by decide)
          have HMN := Lib.hid hmn
          have HWW := Lib.hid hw
          obtain ⟨ef, hefE⟩ : ∃ ef, e + f = ef := ⟨_, rfl⟩
          have HEF := Lib.hid hefE
          have hpr := product_any m n (by omega) (by omega) w
          by_cases c5 : x = 0
          · have d5 : ((x : Int) == 0) = true := by simp; omega
            clear hmn hw HW he hf hm hn he2 hf2 hxa hyb c3 c4 c5
            go_enter Tryz.func24, Tryz.ntmps24
            go_wp2_with fail
            refine (p1 _).mono ?_
            rintro e' w1 ⟨rfl, rfl⟩
            go_wp2_with fail
            refine (p2 _).mono ?_
            rintro e' w2 ⟨rfl, rfl⟩
            go_wp2_with fail
            refine hpr.mono ?_
            rintro e' w3 ⟨v, rfl, n1, b1⟩
            have hr := rounded_any sg v (m * n) ef false HMN.out (by omega) (by omega) w3 n1
            have hq : Ieee.double.word sg (if m * n = 0 then 0 else rungR (m * n) false ef) = W := by rw [← HEF.out]; exact HWW.out.symm
            rw [hq] at hr
            clear hq p1 p2 hpr
            go_wp2_with fail
            refine hr.mono ?_
            rintro e' w4 ⟨rfl, b2⟩
            go_wp2_with fail
            go_ret
            exact ⟨rfl, b1.trans (b2.mono b1.size)⟩
          · have d5 : ((x : Int) == 0) = false := by simp; omega
            clear hmn hw HW he hf hm hn he2 hf2 hxa hyb c3 c4 c5
            go_enter Tryz.func24, Tryz.ntmps24
            go_wp2_with fail
            refine (p1 _).mono ?_
            rintro e' w1 ⟨rfl, rfl⟩
            go_wp2_with fail
            refine (p2 _).mono ?_
            rintro e' w2 ⟨rfl, rfl⟩
            go_wp2_with fail
            refine hpr.mono ?_
            rintro e' w3 ⟨v, rfl, n1, b1⟩
            have hr := rounded_any sg v (m * n) ef false HMN.out (by omega) (by omega) w3 n1
            have hq : Ieee.double.word sg (if m * n = 0 then 0 else rungR (m * n) false ef) = W := by rw [← HEF.out]; exact HWW.out.symm
            rw [hq] at hr
            clear hq p1 p2 hpr
            go_wp2_with fail
            refine hr.mono ?_
            rintro e' w4 ⟨rfl, b2⟩
            go_wp2_with fail
            go_ret
            exact ⟨rfl, b1.trans (b2.mono b1.size)⟩
end Go.Proofs.YtadlppllbebkdaaGreatDoor
