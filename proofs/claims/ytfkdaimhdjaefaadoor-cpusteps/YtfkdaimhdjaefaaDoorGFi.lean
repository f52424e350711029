/- The document's sum of two floats. -/
import Derived.Test.YtfkdaimhdjaefaaDoorGFg
namespace Go.Proofs.YtfkdaimhdjaefaaDoor.Flt
open Go.RowKit

theorem cmpN_three (X Y : Nat) : (cmpN X Y = 1 ∧ Y < X) ∨ (cmpN X Y = 0 ∧ X = Y) ∨ (cmpN X Y = -1 ∧ X < Y) := by
  unfold cmpN
  split
  · exact .inr (.inr ⟨rfl, by assumption⟩)
  · split
    · exact .inl ⟨rfl, by assumption⟩
    · exact .inr (.inl ⟨rfl, by omega⟩)

theorem mag_shift (m u : Nat) (hm : m < 9007199254740992) (hu : u ≤ 2045) : m * 2 ^ u < BB ^ 66 := by
  have h1 : m * 2 ^ u < 2 ^ 53 * 2 ^ u := Nat.mul_lt_mul_of_pos_right hm (Nat.two_pow_pos u)
  rw [← pow_add'] at h1
  exact Nat.lt_trans h1 (two_lt _ 66 (by omega))

theorem sum66 (a b : Nat) (ha : a < BB ^ 66) (hb : b < BB ^ 66) : a + b < BB ^ 80 := by
  refine upBB _ 67 80 ?_ (by decide)
  have e : BB ^ 67 = BB ^ 66 * BB := Nat.pow_succ BB 66
  rw [e]
  generalize BB ^ 66 = p at *
  unfold BB
  omega

set_option maxRecDepth 100000 in
set_option maxHeartbeats 8000000 in
theorem add_any (a b : Nat) (ha : a < 18446744073709551616) (hb : b < 18446744073709551616) (w : World) :
    Calls Tryd.prog 38 #[.int .u64 a, .int .u64 b] w fun e w' => e = .returned (.int .u64 (fadd a b : Nat)) ∧ Below w.heap.size w w' := by
  have hI : INF = 9218868437227405312 := rfl
  have rA := rung_bits a ha
  have rB := rung_bits b hb
  have hNa := isNaN23 a ha
  have hNb := isNaN23 b hb
  obtain ⟨x, hx⟩ : ∃ x, rungOf a = x := ⟨_, rfl⟩
  obtain ⟨y, hy⟩ : ∃ x, rungOf b = x := ⟨_, rfl⟩
  obtain ⟨W, hW⟩ : ∃ W, fadd a b = W := ⟨_, rfl⟩
  rw [hW]
  rw [hx] at rA hNa
  rw [hy] at rB hNb
  have HX := Lib.hid hx
  have HY := Lib.hid hy
  have HW := Lib.hid hW
  clear hx hy hW
  by_cases c1 : INF < x
  · have hw : W = NAN := by rw [← HW.out, fadd_of_nan a b (.inl (by rw [HX.out]; exact c1))]
    subst hw
    rw [decide_eq_true c1] at hNa
    clear HW hNb
    go_enter Tryd.func38, Tryd.ntmps38
    go_wp2_with (go_at_call 39; refine (hNa _).mono ?_; rintro e w1 ⟨rfl, rfl⟩)
    go_ret
    exact ⟨rfl, Below.refl _ _⟩
  · rw [decide_eq_false c1] at hNa
    by_cases c2 : INF < y
    · have hw : W = NAN := by rw [← HW.out, fadd_of_nan a b (.inr (by rw [HY.out]; exact c2))]
      subst hw
      rw [decide_eq_true c2] at hNb
      clear HW
      go_enter Tryd.func38, Tryd.ntmps38
      go_wp2_with fail
      refine (hNa _).mono ?_
      rintro e w1 ⟨rfl, rfl⟩
      go_wp2_with fail
      refine (hNb _).mono ?_
      rintro e w1 ⟨rfl, rfl⟩
      go_wp2_with fail
      go_ret
      exact ⟨rfl, Below.refl _ _⟩
    · rw [decide_eq_false c2] at hNb
      by_cases c3 : x = INF
      · have d3 : ((x : Int) == 9218868437227405312) = true := by simp; omega
        by_cases c4 : y = INF
        · have d4 : ((y : Int) == 9218868437227405312) = true := by simp; omega
          have hw : W = if negOf a = negOf b then a else NAN := by
            rw [← HW.out]; unfold fadd
            rw [add_infs a b (by rw [HX.out]; exact c3) (by rw [HY.out]; exact c4)]
            split
            · have := word_of a ha
              rw [HX.out, c3] at this
              exact this
            · rfl
          by_cases c5 : a = b
          · have hw2 : W = a := by rw [hw, c5, if_pos rfl]
            have d5 : ((a : Int) != (b : Int)) = false := by simp [c5]
            rw [hw2]
            clear HW hw hw2 c3 c4 c5
            go_enter Tryd.func38, Tryd.ntmps38
            go_wp2_with fail
            refine (hNa _).mono ?_
            rintro e w1 ⟨rfl, rfl⟩
            go_wp2_with fail
            refine (hNb _).mono ?_
            rintro e w1 ⟨rfl, rfl⟩
            go_wp2_with fail
            go_ret
            exact ⟨rfl, Below.refl _ _⟩
          · have hne : negOf a ≠ negOf b := by
              intro hh
              apply c5
              rw [← word_of a ha, ← word_of b hb, HX.out, HY.out, c3, c4, hh]
            have hw2 : W = NAN := by rw [hw, if_neg hne]
            have d5 : ((a : Int) != (b : Int)) = true := by simp; omega
            rw [hw2]
            clear HW hw hw2 c3 c4 c5 hne
            go_enter Tryd.func38, Tryd.ntmps38
            go_wp2_with fail
            refine (hNa _).mono ?_
            rintro e w1 ⟨rfl, rfl⟩
            go_wp2_with fail
            refine (hNb _).mono ?_
            rintro e w1 ⟨rfl, rfl⟩
            go_wp2_with fail
            go_ret
            exact ⟨rfl, Below.refl _ _⟩
        · have d4 : ((y : Int) == 9218868437227405312) = false := by simp; omega
          have hw : W = a := by
            rw [← HW.out]; unfold fadd
            rw [add_inf a b (by rw [HX.out]; exact c3) (by rw [HY.out]; omega)]
            have := word_of a ha
            rw [HX.out, c3] at this
            exact this
          rw [hw]
          clear HW hw c3 c4
          go_enter Tryd.func38, Tryd.ntmps38
          go_wp2_with fail
          refine (hNa _).mono ?_
          rintro e w1 ⟨rfl, rfl⟩
          go_wp2_with fail
          refine (hNb _).mono ?_
          rintro e w1 ⟨rfl, rfl⟩
          go_wp2_with fail
          go_ret
          exact ⟨rfl, Below.refl _ _⟩
      · have d3 : ((x : Int) == 9218868437227405312) = false := by simp; omega
        by_cases c4 : y = INF
        · have d4 : ((y : Int) == 9218868437227405312) = true := by simp; omega
          have hw : W = b := by
            rw [← HW.out, fadd_comm]; unfold fadd
            rw [add_inf b a (by rw [HY.out]; exact c4) (by rw [HX.out]; omega)]
            have := word_of b hb
            rw [HY.out, c4] at this
            exact this
          rw [hw]
          clear HW hw c3 c4
          go_enter Tryd.func38, Tryd.ntmps38
          go_wp2_with fail
          refine (hNa _).mono ?_
          rintro e w1 ⟨rfl, rfl⟩
          go_wp2_with fail
          refine (hNb _).mono ?_
          rintro e w1 ⟨rfl, rfl⟩
          go_wp2_with fail
          go_ret
          exact ⟨rfl, Below.refl _ _⟩
        · have d4 : ((y : Int) == 9218868437227405312) = false := by simp; omega
          by_cases c5 : x = 0 ∧ y = 0
          · obtain ⟨c5, c6⟩ := c5
            have d5 : ((x : Int) == 0) = true := by simp; omega
            have d6 : ((y : Int) == 0) = true := by simp; omega
            have ez := zero_bits a b ha hb (by rw [HX.out]; exact c5) (by rw [HY.out]; exact c6)
            rw [← add_zeros a b (by rw [HX.out]; exact c5) (by rw [HY.out]; exact c6), HW.out] at ez
            clear HW c3 c4 c5 c6
            go_enter Tryd.func38, Tryd.ntmps38
            go_wp2_with fail
            refine (hNa _).mono ?_
            rintro e w1 ⟨rfl, rfl⟩
            go_wp2_with fail
            refine (hNb _).mono ?_
            rintro e w1 ⟨rfl, rfl⟩
            go_wp2_with fail
            go_ret
            exact ⟨rfl, Below.refl _ _⟩
          · have hxa : rungOf a < INF := by rw [HX.out]; omega
            have hyb : rungOf b < INF := by rw [HY.out]; omega
            have sA := sgn_bits a ha
            have sB := sgn_bits b hb
            obtain ⟨ex, hex⟩ : ∃ e, expOf (rungOf a) = e := ⟨_, rfl⟩
            obtain ⟨ey, hey⟩ : ∃ e, expOf (rungOf b) = e := ⟨_, rfl⟩
            obtain ⟨m, hm⟩ : ∃ m, magOf (rungOf a) = m := ⟨_, rfl⟩
            obtain ⟨n, hn⟩ : ∃ m, magOf (rungOf b) = m := ⟨_, rfl⟩
            obtain ⟨s, hs⟩ : ∃ s, negOf a = s := ⟨_, rfl⟩
            obtain ⟨t, ht⟩ : ∃ s, negOf b = s := ⟨_, rfl⟩
            have hm2 : m < 9007199254740992 := by rw [← hm]; exact (mag_exp _ hxa).1
            have hn2 : n < 9007199254740992 := by rw [← hn]; exact (mag_exp _ hyb).1
            have hx2 : ex ≤ 2045 := by rw [← hex]; exact (mag_exp _ hxa).2
            have hy2 : ey ≤ 2045 := by rw [← hey]; exact (mag_exp _ hyb).2
            obtain ⟨k, hk⟩ : ∃ k, k = min ex ey := ⟨_, rfl⟩
            have hk1 : k ≤ ex := by omega
            have hk2 : k ≤ ey := by omega
            obtain ⟨X, hX⟩ : ∃ X, m * 2 ^ (ex - k) = X := ⟨_, rfl⟩
            obtain ⟨Y, hY⟩ : ∃ X, n * 2 ^ (ey - k) = X := ⟨_, rfl⟩
            have hXB : X < BB ^ 66 := by rw [← hX]; exact mag_shift m _ hm2 (by omega)
            have hYB : Y < BB ^ 66 := by rw [← hY]; exact mag_shift n _ hn2 (by omega)
            obtain ⟨kI, hkI⟩ : ∃ j : Int, j = (k : Int) - 1074 := ⟨_, rfl⟩
            have hrq : ∀ Q, (if Q = 0 then 0 else rungR Q false kI) = rn (Q * 2 ^ k) 1 := fun Q => by
              have := rungQ_false Q kI k 0 (by omega)
              rw [Nat.pow_zero] at this
              exact this
            have hsame : s = t → Ieee.double.word s (if X + Y = 0 then 0 else rungR (X + Y) false kI) = W := by
              intro hh
              have h := add_same a b hxa hyb (by rw [HX.out, HY.out]; exact c5) (by rw [hs, ht]; exact hh) k (by rw [hex]; exact hk1) (by rw [hey]; exact hk2)
              rw [hex, hey, hm, hn, hs, hX, hY, HW.out] at h
              rw [hrq, h]
            have hapart : s ≠ t → W = if X = Y then 0 else if Y < X then Ieee.double.word s (if X - Y = 0 then 0 else rungR (X - Y) false kI) else Ieee.double.word t (if Y - X = 0 then 0 else rungR (Y - X) false kI) := by
              intro hh
              have h := add_apart a b hxa hyb (by rw [hs, ht]; exact hh) k (by rw [hex]; exact hk1) (by rw [hey]; exact hk2) X Y (by rw [hm, hex, hX]) (by rw [hn, hey, hY])
              rw [hs, ht, HW.out] at h
              rw [hrq, hrq, h]
            have p1 := parts_any x (by omega)
            have p2 := parts_any y (by omega)
            rw [← HX.out, hm, hex, HX.out] at p1
            rw [← HY.out, hn, hey, HY.out] at p2
            rw [hs] at sA
            rw [ht] at sB
            obtain ⟨eI, heI⟩ : ∃ j : Int, (ex : Int) - 1074 = j := ⟨_, rfl⟩
            obtain ⟨fI, hfI⟩ : ∃ j : Int, (ey : Int) - 1074 = j := ⟨_, rfl⟩
            rw [heI] at p1
            rw [hfI] at p2
            have heB : -1074 ≤ eI ∧ eI ≤ 1000 := by omega
            have hfB : -1074 ≤ fI ∧ fI ≤ 1000 := by omega
            have hkB : -1074 ≤ kI ∧ kI ≤ 1000 := by omega
            obtain ⟨u, hu⟩ : ∃ u, ex - k = u := ⟨_, rfl⟩
            obtain ⟨v, hv⟩ : ∃ u, ey - k = u := ⟨_, rfl⟩
            rw [hu] at hX
            rw [hv] at hY
            have hu2 : eI - kI = (u : Int) := by omega
            have hv2 : fI - kI = (v : Int) := by omega
            have hu3 : u ≤ 2045 := by omega
            have hv3 : v ≤ 2045 := by omega
            have HK : Hid (min eI fI = kI) := Lib.hid (by omega)
            have HC5 := Lib.hid c5
            have HSame := Lib.hid hsame
            have HApart := Lib.hid hapart
            have HXX := Lib.hid hX
            have HYY := Lib.hid hY
            have HXB := Lib.hid hXB
            have HYB := Lib.hid hYB
            have o1 := of_any m (by omega)
            have o2 := of_any n (by omega)
            clear HW hsame hapart hrq hX hY hXB hYB c5 hu hv heI hfI hkI hk hk1 hk2 hm hn hs ht hex hey hxa hyb c3 c4 hx2 hy2
            go_enter Tryd.func38, Tryd.ntmps38
            go_wp2_with fail
            refine (hNa _).mono ?_
            rintro e w1 ⟨rfl, rfl⟩
            go_wp2_with fail
            refine (hNb _).mono ?_
            rintro e w1 ⟨rfl, rfl⟩
            clear hNa hNb
            go_upto_region 7 with fail
            go_cut [48] from 41 to 48 (fun s48 wy => s48 = .bool false ∧ wy = w1)
            case first =>
              by_cases c5 : x = 0
              · have d5 : ((x : Int) == 0) = true := by simp; omega
                have d6 : ((y : Int) == 0) = false := by simp; have := HC5.out; omega
                clear c5
                go_wp2_with fail
                go_meet
                case rel => exact ⟨rfl, rfl⟩
              · have d5 : ((x : Int) == 0) = false := by simp; omega
                clear c5
                go_wp2_with fail
                go_meet
                case rel => exact ⟨rfl, rfl⟩
            case rest =>
              obtain ⟨rfl, rfl⟩ := hcut
              go_wp2_with fail
              refine (p1 _).mono ?_
              rintro e w2 ⟨rfl, rfl⟩
              go_wp2_with fail
              refine (p2 _).mono ?_
              rintro e w3 ⟨rfl, rfl⟩
              clear p1 p2
              go_upto_region 11 with fail
              go_cut [9] from 64 to 66 (fun s9 wy => s9 = .int .i64 kI ∧ wy = w3)
              case first =>
                rcases Int.lt_or_le eI fI with hc | hc
                · go_wp2_with fail
                  all_goals go_meet
                  all_goals (case rel => exact ⟨congrArg (Value.int .i64) (by have := HK.out; omega), rfl⟩)
                · go_wp2_with fail
                  all_goals go_meet
                  all_goals (case rel => exact ⟨congrArg (Value.int .i64) (by have := HK.out; omega), rfl⟩)
              case rest =>
                obtain ⟨rfl, rfl⟩ := hcut
                rename World => wc
                go_wp2_with fail
                refine (o1 _).mono ?_
                rintro e w4 ⟨v4, rfl, n4, b4⟩
                have hs4 := shift_any v4 m u (by omega) (low_BB m 300 (by omega) (by decide)) w4 n4
                rw [HXX.out] at hs4
                go_wp2_with fail
                refine hs4.mono ?_
                rintro e w5 ⟨v5, rfl, n5, b5⟩
                replace b4 := b4.trans (b5.mono b4.size)
                clear hs4 n4 b5
                go_wp2_with fail
                refine (o2 _).mono ?_
                rintro e w6 ⟨v6, rfl, n6, b6⟩
                replace b4 := b4.trans (b6.mono b4.size)
                replace n5 := n5.kept b6
                have hs6 := shift_any v6 n v (by omega) (low_BB n 300 (by omega) (by decide)) w6 n6
                rw [HYY.out] at hs6
                clear b6
                go_wp2_with fail
                refine hs6.mono ?_
                rintro e w7 ⟨v7, rfl, n7, b7⟩
                replace b4 := b4.trans (b7.mono b4.size)
                replace n5 := n5.kept b7
                clear hs6 n6 b7 o1 o2
                by_cases hst : s = t
                · have d7 : ((sgn s : Int) == (sgn t : Int)) = true := by simp [hst]
                  have hsum := sum_any v5 v7 X Y (upBB _ 66 400 HXB.out (by decide)) (upBB _ 66 400 HYB.out (by decide)) w7 n5 n7
                  have HQ := Lib.hid (HSame.out hst)
                  clear hst HSame HApart
                  go_wp2_with fail
                  refine hsum.mono ?_
                  rintro e w8 ⟨v8, rfl, n8, b8⟩
                  have hr := rounded_any s v8 (X + Y) kI false (sum66 X Y HXB.out HYB.out) (by omega) (by omega) w8 n8
                  rw [HQ.out] at hr
                  clear hsum
                  go_wp2_with fail
                  refine hr.mono ?_
                  rintro e w9 ⟨rfl, b9⟩
                  go_wp2_with fail
                  go_ret
                  exact ⟨rfl, b4.trans ((b8.trans (b9.mono b8.size)).mono b4.size)⟩
                · have d7 : ((sgn s : Int) == (sgn t : Int)) = false := by cases s <;> cases t <;> simp_all [sgn]
                  have hcm := compare_any v5 v7 X Y (upBB _ 66 400 HXB.out (by decide)) (upBB _ 66 400 HYB.out (by decide)) w7 n5 n7
                  have HA := Lib.hid (HApart.out hst)
                  clear hst HSame HApart
                  obtain ⟨C, hC⟩ : ∃ C, cmpN X Y = C := ⟨_, rfl⟩
                  have h3 := cmpN_three X Y
                  rw [hC] at hcm h3
                  have H3 := Lib.hid h3
                  clear hC h3
                  go_wp2_with fail
                  refine hcm.mono ?_
                  rintro e w8 ⟨rfl, nd, rfl⟩
                  clear hcm
                  have bd := below_drewN (Below.refl w7.heap.size w7) nd
                  replace b4 := b4.trans (bd.mono b4.size)
                  replace n5 := n5.kept bd
                  replace n7 := n7.kept bd
                  obtain ⟨w8, hw8⟩ : ∃ W8, Hid (W8 = w7.drewN nd) := ⟨_, Lib.hid rfl⟩
                  rw [← hw8.out] at b4 n5 n7 ⊢
                  clear bd
                  rcases H3.out with ⟨rfl, hc⟩ | ⟨rfl, hc⟩ | ⟨rfl, hc⟩
                  · have hl := less_any v5 v7 X Y (upBB _ 66 400 HXB.out (by decide)) (by omega) w8 n5 n7
                    have hq : Ieee.double.word s (if X - Y = 0 then 0 else rungR (X - Y) false kI) = W := by
                      rw [HA.out, if_neg (show ¬ X = Y by omega), if_pos hc]
                    have HQ := Lib.hid hq
                    clear hq HA H3 hc
                    go_wp2_with fail
                    refine hl.mono ?_
                    rintro e w9 ⟨v9, rfl, n9, b9⟩
                    have hr := rounded_any s v9 (X - Y) kI false (upBB _ 66 80 (Nat.lt_of_le_of_lt (Nat.sub_le _ _) HXB.out) (by decide)) (by omega) (by omega) w9 n9
                    rw [HQ.out] at hr
                    clear hl
                    go_wp2_with fail
                    refine hr.mono ?_
                    rintro e w10 ⟨rfl, b10⟩
                    go_wp2_with fail
                    go_ret
                    exact ⟨rfl, b4.trans ((b9.trans (b10.mono b9.size)).mono b4.size)⟩
                  · have hq : W = 0 := by rw [HA.out, if_pos hc]
                    have HQ := Lib.hid hq
                    clear hq HA H3 hc
                    go_wp2_with fail
                    go_ret
                    exact ⟨by rw [HQ.out]; rfl, b4⟩
                  · have hl := less_any v7 v5 Y X (upBB _ 66 400 HYB.out (by decide)) (by omega) w8 n7 n5
                    have hq : Ieee.double.word t (if Y - X = 0 then 0 else rungR (Y - X) false kI) = W := by
                      rw [HA.out, if_neg (show ¬ X = Y by omega), if_neg (show ¬ Y < X by omega)]
                    have HQ := Lib.hid hq
                    clear hq HA H3 hc
                    go_wp2_with fail
                    refine hl.mono ?_
                    rintro e w9 ⟨v9, rfl, n9, b9⟩
                    have hr := rounded_any t v9 (Y - X) kI false (upBB _ 66 80 (Nat.lt_of_le_of_lt (Nat.sub_le _ _) HYB.out) (by decide)) (by omega) (by omega) w9 n9
                    rw [HQ.out] at hr
                    clear hl
                    go_wp2_with fail
                    refine hr.mono ?_
                    rintro e w10 ⟨rfl, b10⟩
                    go_wp2_with fail
                    go_ret
                    exact ⟨rfl, b4.trans ((b9.trans (b10.mono b9.size)).mono b4.size)⟩
end Go.Proofs.YtfkdaimhdjaefaaDoor.Flt

/- The document's quotient of two floats: the long division. -/
namespace Go.Proofs.YtfkdaimhdjaefaaDoor.Flt
open Go.RowKit

/-- A round of the long division: j rounds are left; q so far, r the rest. -/
def Long (M n j q r : Nat) : Prop := r + q * n * 2 ^ j = M ∧ r < n * 2 ^ j

theorem long_start (M n j : Nat) (h : M < n * 2 ^ j) : Long M n j 0 M := ⟨by simp, h⟩

theorem long_yes (M n j q r : Nat) (h : Long M n (j + 1) q r) (hc : n * 2 ^ j ≤ r) : Long M n j (2 * q + 1) (r - n * 2 ^ j) := by
  obtain ⟨h1, h2⟩ := h
  rw [Nat.pow_succ] at h1 h2
  refine ⟨?_, ?_⟩
  · have e : (2 * q + 1) * n * 2 ^ j = q * n * (2 ^ j * 2) + n * 2 ^ j := by
      rw [Nat.add_mul, Nat.add_mul, Nat.one_mul, Nat.mul_comm 2 q, Nat.mul_right_comm q 2 n, Nat.mul_assoc (q * n), Nat.mul_comm 2]
    omega
  · rw [← Nat.mul_assoc] at h2
    omega

theorem long_no (M n j q r : Nat) (h : Long M n (j + 1) q r) (hc : r < n * 2 ^ j) : Long M n j (2 * q) r := by
  obtain ⟨h1, h2⟩ := h
  rw [Nat.pow_succ] at h1
  refine ⟨?_, hc⟩
  have e : 2 * q * n * 2 ^ j = q * n * (2 ^ j * 2) := by
    rw [Nat.mul_comm 2 q, Nat.mul_right_comm q 2 n, Nat.mul_assoc (q * n), Nat.mul_comm 2]
  omega

theorem long_end (M n q r : Nat) (h : Long M n 0 q r) : q = M / n ∧ r = M % n := by
  obtain ⟨h1, h2⟩ := h
  rw [Nat.pow_zero, Nat.mul_one] at h1 h2
  have := Nat.div_mod_unique (a := M) (d := q) (c := r) (b := n) (by omega)
  have h3 := this.2 ⟨by rw [Nat.mul_comm n q]; exact h1, h2⟩
  exact ⟨h3.1.symm, h3.2.symm⟩

theorem long_small (M n j q r : Nat) (h : Long M n j q r) (hn : 0 < n) : q ≤ M ∧ r ≤ M := by
  obtain ⟨h1, _⟩ := h
  have h3 : q * 1 * 1 ≤ q * n * 2 ^ j := Nat.mul_le_mul (Nat.mul_le_mul_left q hn) (Nat.two_pow_pos j)
  rw [Nat.mul_one, Nat.mul_one] at h3
  omega
set_option maxRecDepth 100000 in
set_option maxHeartbeats 8000000 in
theorem div_any (a b : Nat) (ha : a < 18446744073709551616) (hb : b < 18446744073709551616) (w : World) :
    Calls Tryd.prog 41 #[.int .u64 a, .int .u64 b] w fun e w' => e = .returned (.int .u64 (fdiv a b : Nat)) ∧ Below w.heap.size w w' := by
  have hI : INF = 9218868437227405312 := rfl
  have rA := rung_bits a ha
  have rB := rung_bits b hb
  obtain ⟨XX, eX, eS⟩ := xor_bits a b ha hb
  obtain ⟨x, hx⟩ : ∃ x, rungOf a = x := ⟨_, rfl⟩
  obtain ⟨y, hy⟩ : ∃ x, rungOf b = x := ⟨_, rfl⟩
  obtain ⟨sg, hs⟩ : ∃ s, (negOf a ^^ negOf b) = s := ⟨_, rfl⟩
  obtain ⟨W, hW⟩ : ∃ W, fdiv a b = W := ⟨_, rfl⟩
  rw [hW]
  rw [hx] at rA
  rw [hy] at rB
  rw [hs] at eS
  have HX := Lib.hid hx
  have HY := Lib.hid hy
  have HS := Lib.hid hs
  have HW := Lib.hid hW
  have hword : ∀ s : Bool, Ieee.double.word s 0 = sgn s := by intro s; rw [word_eq]; cases s <;> rfl
  clear hx hy hs hW
  by_cases c1 : INF < x
  · have xN : ((x : Int) > 9218868437227405312) := by omega
    have xI : ((x : Int) == 9218868437227405312) = false := by simp; omega
    have xZ : ((x : Int) == 0) = false := by simp; omega
    clear hword
    have hw : W = NAN := by
      rw [← HW.out]
      rw [fdiv_of_nan a b (.inl (by rw [HX.out]; omega))]
    subst hw
    clear HW 
    go_enter Tryd.func41, Tryd.ntmps41
    go_wp2_with fail
    go_ret
    exact ⟨rfl, Below.refl _ _⟩
  · by_cases c2 : INF < y
    · have xN : decide ((x : Int) > 9218868437227405312) = false := by simp; omega
      have yN : ((y : Int) > 9218868437227405312) := by omega
      clear hword
      have hw : W = NAN := by
        rw [← HW.out]
        rw [fdiv_of_nan a b (.inr (by rw [HY.out]; omega))]
      subst hw
      clear HW 
      go_enter Tryd.func41, Tryd.ntmps41
      go_wp2_with fail
      go_ret
      exact ⟨rfl, Below.refl _ _⟩
    · by_cases c3 : x = INF
      · by_cases c4 : y = INF
        · have xN : decide ((x : Int) > 9218868437227405312) = false := by simp; omega
          have xI : ((x : Int) == 9218868437227405312) = true := by simp; omega
          have xZ : ((x : Int) == 0) = false := by simp; omega
          have yN : decide ((y : Int) > 9218868437227405312) = false := by simp; omega
          have yI : ((y : Int) == 9218868437227405312) = true := by simp; omega
          clear hword
          have hw : W = NAN := by
            rw [← HW.out]
            unfold fdiv
            rw [div_infs a b (by rw [HX.out]; omega) (by rw [HY.out]; omega)]; rfl
          subst hw
          clear HW c3 c4
          go_enter Tryd.func41, Tryd.ntmps41
          go_wp2_with fail
          go_ret
          exact ⟨rfl, Below.refl _ _⟩
        · have xN : decide ((x : Int) > 9218868437227405312) = false := by simp; omega
          have xI : ((x : Int) == 9218868437227405312) = true := by simp; omega
          have xZ : ((x : Int) == 0) = false := by simp; omega
          have yN : decide ((y : Int) > 9218868437227405312) = false := by simp; omega
          have yI : ((y : Int) == 9218868437227405312) = false := by simp; omega
          clear hword
          have hw : W = Ieee.double.word sg INF := by
            rw [← HW.out]
            unfold fdiv
            rw [div_inf a b (by rw [HX.out]; omega) (by rw [HY.out]; omega), HS.out]; rfl
          have eo := or_sgn sg INF (by decide)
          rw [← hw] at eo
          have eo2 : bits .or .u64 (sgn sg : Nat) 9218868437227405312 = (W : Int) := eo
          clear HW hw eo c3 c4
          go_enter Tryd.func41, Tryd.ntmps41
          go_wp2_with fail
          go_ret
          exact ⟨rfl, Below.refl _ _⟩
      · by_cases c4 : y = INF
        · by_cases c5 : x = 0
          · have xN : decide ((x : Int) > 9218868437227405312) = false := by simp; omega
            have xI : ((x : Int) == 9218868437227405312) = false := by simp; omega
            have xZ : ((x : Int) == 0) = true := by simp; omega
            have yN : decide ((y : Int) > 9218868437227405312) = false := by simp; omega
            have yI : ((y : Int) == 9218868437227405312) = true := by simp; omega
            have yZ : ((y : Int) == 0) = false := by simp; omega
            have hw : W = sgn sg := by
              rw [← HW.out]
              unfold fdiv
              rw [div_by_inf a b (by rw [HX.out]; omega) (by rw [HY.out]; omega), HS.out]; exact hword sg
            rw [hw]
            clear HW hw c3 c4 c5 hword
            go_enter Tryd.func41, Tryd.ntmps41
            go_wp2_with fail
            go_ret
            exact ⟨rfl, Below.refl _ _⟩
          · have xN : decide ((x : Int) > 9218868437227405312) = false := by simp; omega
            have xI : ((x : Int) == 9218868437227405312) = false := by simp; omega
            have xZ : ((x : Int) == 0) = false := by simp; omega
            have yN : decide ((y : Int) > 9218868437227405312) = false := by simp; omega
            have yI : ((y : Int) == 9218868437227405312) = true := by simp; omega
            have yZ : ((y : Int) == 0) = false := by simp; omega
            have hw : W = sgn sg := by
              rw [← HW.out]
              unfold fdiv
              rw [div_by_inf a b (by rw [HX.out]; omega) (by rw [HY.out]; omega), HS.out]; exact hword sg
            rw [hw]
            clear HW hw c3 c4 c5 hword
            go_enter Tryd.func41, Tryd.ntmps41
            go_wp2_with fail
            go_ret
            exact ⟨rfl, Below.refl _ _⟩
        · by_cases c5 : x = 0
          · by_cases c6 : y = 0
            · have xN : decide ((x : Int) > 9218868437227405312) = false := by simp; omega
              have xI : ((x : Int) == 9218868437227405312) = false := by simp; omega
              have xZ : ((x : Int) == 0) = true := by simp; omega
              have yN : decide ((y : Int) > 9218868437227405312) = false := by simp; omega
              have yI : ((y : Int) == 9218868437227405312) = false := by simp; omega
              have yZ : ((y : Int) == 0) = true := by simp; omega
              clear hword
              have hw : W = NAN := by
                rw [← HW.out]
                unfold fdiv
                rw [div_zeros a b (by rw [HX.out]; omega) (by rw [HY.out]; omega)]; rfl
              subst hw
              clear HW c3 c4 c5 c6
              go_enter Tryd.func41, Tryd.ntmps41
              go_wp2_with fail
              go_ret
              exact ⟨rfl, Below.refl _ _⟩
            · have xN : decide ((x : Int) > 9218868437227405312) = false := by simp; omega
              have xI : ((x : Int) == 9218868437227405312) = false := by simp; omega
              have xZ : ((x : Int) == 0) = true := by simp; omega
              have yN : decide ((y : Int) > 9218868437227405312) = false := by simp; omega
              have yI : ((y : Int) == 9218868437227405312) = false := by simp; omega
              have yZ : ((y : Int) == 0) = false := by simp; omega
              have hw : W = sgn sg := by
                rw [← HW.out]
                unfold fdiv
                rw [div_fin a b (by rw [HX.out]; omega) (by rw [HY.out]; omega) (by rw [HY.out]; omega), HS.out, HX.out, c5, V_zero, Nat.zero_mul, rn_zero]; exact hword sg
              rw [hw]
              clear HW hw c3 c4 c5 c6 hword
              go_enter Tryd.func41, Tryd.ntmps41
              go_wp2_with fail
              go_ret
              exact ⟨rfl, Below.refl _ _⟩
          · by_cases c6 : y = 0
            · have xN : decide ((x : Int) > 9218868437227405312) = false := by simp; omega
              have xI : ((x : Int) == 9218868437227405312) = false := by simp; omega
              have xZ : ((x : Int) == 0) = false := by simp; omega
              have yN : decide ((y : Int) > 9218868437227405312) = false := by simp; omega
              have yI : ((y : Int) == 9218868437227405312) = false := by simp; omega
              have yZ : ((y : Int) == 0) = true := by simp; omega
              clear hword
              have hw : W = Ieee.double.word sg INF := by
                rw [← HW.out]
                unfold fdiv
                rw [div_by_zero a b (by rw [HX.out]; omega) (by rw [HX.out]; omega) (by rw [HY.out]; omega), HS.out]; rfl
              have eo := or_sgn sg INF (by decide)
              rw [← hw] at eo
              have eo2 : bits .or .u64 (sgn sg : Nat) 9218868437227405312 = (W : Int) := eo
              clear HW hw eo c3 c4 c5 c6
              go_enter Tryd.func41, Tryd.ntmps41
              go_wp2_with fail
              go_ret
              exact ⟨rfl, Below.refl _ _⟩
            · have xN : decide ((x : Int) > 9218868437227405312) = false := by simp; omega
              have xI : ((x : Int) == 9218868437227405312) = false := by simp; omega
              have xZ : ((x : Int) == 0) = false := by simp; omega
              have yN : decide ((y : Int) > 9218868437227405312) = false := by simp; omega
              have yI : ((y : Int) == 9218868437227405312) = false := by simp; omega
              have yZ : ((y : Int) == 0) = false := by simp; omega
              have hxa : rungOf a < INF := by rw [HX.out]; omega
              have hyb : rungOf b < INF := by rw [HY.out]; omega
              obtain ⟨e, he⟩ : ∃ e, e = (expOf (rungOf a) : Int) - 1074 := ⟨_, rfl⟩
              obtain ⟨f, hf⟩ : ∃ e, e = (expOf (rungOf b) : Int) - 1074 := ⟨_, rfl⟩
              obtain ⟨m, hm⟩ : ∃ m, m = magOf (rungOf a) := ⟨_, rfl⟩
              obtain ⟨n, hn⟩ : ∃ m, m = magOf (rungOf b) := ⟨_, rfl⟩
              obtain ⟨hq0, hw⟩ := div_ref a b hxa hyb (by rw [HX.out]; exact c5) (by rw [HY.out]; exact c6) e f he hf m n hm hn
              have hm2 : m < 9007199254740992 := by rw [hm]; exact (mag_exp _ hxa).1
              have hn2 : n < 9007199254740992 := by rw [hn]; exact (mag_exp _ hyb).1
              have hn0 : 0 < n := by
                have := mag_zero (rungOf b)
                rw [← hn, HY.out] at this; omega
              have he2 := (mag_exp _ hxa).2
              have hf2 := (mag_exp _ hyb).2
              have p1 := parts_any x (by omega)
              have p2 := parts_any y (by omega)
              rw [← HX.out, ← hm, ← he, HX.out] at p1
              rw [← HY.out, ← hn, ← hf, HY.out] at p2
              obtain ⟨M, hM⟩ : ∃ M, m * 2 ^ 128 = M := ⟨_, rfl⟩
              rw [hM, HS.out, HW.out] at hw
              rw [hM] at hq0
              obtain ⟨g, hg⟩ : ∃ g, e - f - 128 = g := ⟨_, rfl⟩
              rw [hg] at hw
              have hgB : -2500 ≤ g ∧ g ≤ 2500 := by omega
              have he3 : -1074 ≤ e ∧ e ≤ 1000 := by omega
              have hf3 : -1074 ≤ f ∧ f ≤ 1000 := by omega
              have hMB : M < BB ^ 6 := by
                rw [← hM]
                have h1 : m * 2 ^ 128 < 2 ^ 53 * 2 ^ 128 := Nat.mul_lt_mul_of_pos_right hm2 (Nat.two_pow_pos 128)
                exact Nat.lt_trans h1 (by decide)
              have hM185 : M < n * 2 ^ 185 := by
                have h1 : 1 * 2 ^ 185 ≤ n * 2 ^ 185 := Nat.mul_le_mul_right _ hn0
                have h2 : m * 2 ^ 128 < 2 ^ 53 * 2 ^ 128 := Nat.mul_lt_mul_of_pos_right hm2 (Nat.two_pow_pos 128)
                rw [hM] at h2
                exact Nat.lt_of_lt_of_le h2 (Nat.le_trans (by decide) h1)
              have HQ0 := Lib.hid hq0
              have HWW := Lib.hid hw
              have HM := Lib.hid hM
              have HMB := Lib.hid hMB
              have HG := Lib.hid hg
              have H185 := Lib.hid hM185
              have HN0 := Lib.hid hn0
              have o1 := of_any m (by omega)
              have o2 := of_any n (by omega)
              have o3 := of_any 1 (by omega)
              clear hword HW hq0 hw hM hg hMB hM185 he hf hm hn he2 hf2 hxa hyb c3 c4 c5 c6 hn0
              go_enter Tryd.func41, Tryd.ntmps41
              go_wp2_with fail
              refine (p1 _).mono ?_
              rintro e' w1 ⟨rfl, rfl⟩
              go_wp2_with fail
              refine (p2 _).mono ?_
              rintro e' w2 ⟨rfl, rfl⟩
              go_wp2_with fail
              refine (o1 _).mono ?_
              rintro e' w3 ⟨v3, rfl, n3, b3⟩
              have hs3 := shift_any v3 m 128 (by omega) (low_BB m 300 (by omega) (by decide)) w3 n3
              rw [HM.out] at hs3
              go_wp2_with fail
              refine hs3.mono ?_
              rintro e' w4 ⟨v4, rfl, n4, b4⟩
              replace b3 := b3.trans (b4.mono b3.size)
              clear hs3 n3 b4 o1 p1 p2
              go_wp2_with fail
              go_loopw [12, 13, 14, 15] (fun vr vq vi _ wr => ∃ (j q r : Nat), j ≤ 185 ∧ vi = .int .i64 ((j : Int) - 1) ∧ Num wr vr r ∧ Num wr vq q ∧ Hid (Long M n j q r) ∧ Below w2.heap.size w2 wr) (fun _ _ vi _ _ => (intOf vi + 1).toNat)
              case atStart =>
                have ba := (Below.refl w4.heap.size w4).alloc (Nat.le_refl _) (.cells #[] 96)
                exact ⟨185, 0, M, by omega, rfl, n4.kept ba, ⟨[], row_own (own_empty w4) rfl (fun y hy => by simp at hy), .inl rfl, rfl⟩, Lib.hid (long_start M n 185 H185.out), b3.trans (ba.mono b3.size)⟩
              case round =>
                obtain ⟨j, q, r, hj, rfl, nr, nq, HL, bw⟩ := hrel
                rename World => wr
                cases j with
                | zero =>
                  have hz : decide ((((0 : Nat) : Int) - 1) ≥ 0) = false := by decide
                  obtain ⟨hq, hr⟩ := long_end M n q r HL.out
                  have hQB : q < BB ^ 80 := upBB _ 6 80 (Nat.lt_of_le_of_lt (long_small M n 0 q r HL.out HN0.out).1 HMB.out) (by decide)
                  obtain ⟨l, ⟨ao, cap, rfl, h1, h2, h3, h4⟩, hno, hva⟩ := nr
                  have hlz := norm_zero l hno
                  rw [hva] at hlz
                  obtain ⟨p, hp⟩ : ∃ p, l.length = p := ⟨_, rfl⟩
                  rw [hp] at hlz h1 ⊢
                  have hmr : (r != 0) = decide (0 < p) := by
                    rw [Bool.eq_iff_iff, bne_iff_ne, decide_eq_true_iff]; omega
                  have hrd := rounded_any sg u13 q g (decide (0 < p)) hQB (by omega) (by omega) wr nq
                  have hfin : Ieee.double.word sg (if q = 0 then 0 else rungR q (decide (0 < p)) g) = W := by
                    rw [HWW.out, ← hq, ← hr, hmr, if_neg (by rw [hq]; exact HQ0.out)]
                  rw [hfin] at hrd
                  have hge := HG.out
                  clear hfin hQB hq hr h4 h3 hno hva hlz hmr hp
                  go_wp2_with fail
                  refine hrd.mono ?_
                  rintro e' w5 ⟨rfl, b5⟩
                  go_wp2_with fail
                  go_ret
                  exact ⟨rfl, bw.trans (b5.mono bw.size)⟩
                | succ j =>
                  have ej : ((j + 1 : Nat) : Int) - 1 = (j : Int) := by omega
                  rw [ej]
                  have hj0 : (j : Int) ≥ 0 := by omega
                  obtain ⟨T, hT⟩ : ∃ T, n * 2 ^ j = T := ⟨_, rfl⟩
                  have hTB : T < BB ^ 66 := by rw [← hT]; exact mag_shift n j hn2 (by omega)
                  have hsm := long_small M n (j + 1) q r HL.out HN0.out
                  have hrB : r < BB ^ 6 := Nat.lt_of_le_of_lt hsm.2 HMB.out
                  have hqB : q < BB ^ 6 := Nat.lt_of_le_of_lt hsm.1 HMB.out
                  have HT := Lib.hid hT
                  have HTB := Lib.hid hTB
                  have HRB := Lib.hid hrB
                  have HQB := Lib.hid hqB
                  clear ej hT hTB hsm hrB hqB
                  go_wp2_with fail
                  refine (o2 _).mono ?_
                  rintro e' w5 ⟨v5, rfl, n5, b5⟩
                  replace bw := bw.trans (b5.mono bw.size)
                  replace nr := nr.kept b5
                  replace nq := nq.kept b5
                  have hs5 := shift_any v5 n j (by omega) (low_BB n 300 (by omega) (by decide)) w5 n5
                  rw [HT.out] at hs5
                  clear b5
                  go_wp2_with fail
                  refine hs5.mono ?_
                  rintro e' w6 ⟨v6, rfl, n6, b6⟩
                  replace bw := bw.trans (b6.mono bw.size)
                  replace nr := nr.kept b6
                  replace nq := nq.kept b6
                  have ht := times_num u13 q 2 (upBB _ 6 400 HQB.out (by decide)) (by decide) w6 nq
                  clear b6 hs5 n5
                  go_wp2_with fail
                  refine ht.mono ?_
                  rintro e' w7 ⟨v7, rfl, n7, b7⟩
                  replace bw := bw.trans (b7.mono bw.size)
                  replace nr := nr.kept b7
                  replace n6 := n6.kept b7
                  have hcm := compare_any u12 v6 r T (upBB _ 6 400 HRB.out (by decide)) (upBB _ 66 400 HTB.out (by decide)) w7 nr n6
                  obtain ⟨C, hC⟩ : ∃ C, cmpN r T = C := ⟨_, rfl⟩
                  have h3 := cmpN_three r T
                  rw [hC] at hcm h3
                  have H3 := Lib.hid h3
                  clear hC h3 b7 ht nq
                  go_wp2_with fail
                  refine hcm.mono ?_
                  rintro e' w8 ⟨rfl, nd, rfl⟩
                  have bd := below_drewN (Below.refl w7.heap.size w7) nd
                  replace bw := bw.trans (bd.mono bw.size)
                  replace nr := nr.kept bd
                  replace n6 := n6.kept bd
                  replace n7 := n7.kept bd
                  obtain ⟨w8, hw8⟩ : ∃ W8, Hid (W8 = w7.drewN nd) := ⟨_, Lib.hid rfl⟩
                  rw [← hw8.out] at bw nr n6 n7 ⊢
                  clear bd hcm
                  by_cases hc : T ≤ r
                  · have d1 : C ≥ 0 := by have := H3.out; omega
                    have hl := less_any u12 v6 r T (upBB _ 6 400 HRB.out (by decide)) hc w8 nr n6
                    have HN := Lib.hid (long_yes M n j q r HL.out (by rw [HT.out]; exact hc))
                    clear hc
                    go_wp2_with fail
                    refine hl.mono ?_
                    rintro e' w9 ⟨v9, rfl, n9, b9⟩
                    replace bw := bw.trans (b9.mono bw.size)
                    replace n7 := n7.kept b9
                    clear hl b9
                    go_wp2_with fail
                    refine (o3 _).mono ?_
                    rintro e' w10 ⟨v10, rfl, n10, b10⟩
                    replace bw := bw.trans (b10.mono bw.size)
                    replace n7 := n7.kept b10
                    replace n9 := n9.kept b10
                    have h2q : 2 * q < BB ^ 7 := by
                      have e7 : BB ^ 7 = BB ^ 6 * BB := Nat.pow_succ BB 6
                      have := HQB.out
                      rw [e7]; generalize BB ^ 6 = p at *; unfold BB; omega
                    have hsu := sum_any v7 v10 (2 * q) 1 (upBB _ 7 400 h2q (by decide)) (one_lt_BB 400 (by decide)) w10 n7 n10
                    clear b10 h2q
                    go_wp2_with fail
                    refine hsu.mono ?_
                    rintro e' w11 ⟨v11, rfl, n11, b11⟩
                    replace bw := bw.trans (b11.mono bw.size)
                    replace n9 := n9.kept b11
                    go_wp2_with fail
                    go_roundw
                    case rel => exact ⟨j, 2 * q + 1, r - T, by omega, by go_num, n9, n11, Lib.hid (by have := HN.out; rw [HT.out] at this; exact this), bw⟩
                    case measure => simp [intOf]
                  · have d1 : decide (C ≥ 0) = false := by simp; have := H3.out; omega
                    have HN := Lib.hid (long_no M n j q r HL.out (by rw [HT.out]; omega))
                    clear hc
                    go_wp2_with fail
                    go_roundw
                    case rel => exact ⟨j, 2 * q, r, by omega, by go_num, nr, n7, HN, bw⟩
                    case measure => simp [intOf]
end Go.Proofs.YtfkdaimhdjaefaaDoor.Flt
