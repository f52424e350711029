/- The document's quotient of two floats: the long division. -/
import Derived.Test.YtadlppllbebkdaaGreatDoorW28
namespace Go.Proofs.YtadlppllbebkdaaGreatDoor
open Go.RowKit

/-- A round of the long division: j rounds are left; q so far, r the rest. -/
def Long (M n j q r : Nat) : Prop := r + q * n * 2 ^ j = M ∧ r < n * 2 ^ j

theorem long_start (M n j : Nat) (h : M < n * 2 ^ j) : Long M n j 0 M := ⟨by simp, h⟩

theorem long_yes (M n j q r : Nat) (h : Long M n (j + 1) q r) (hc : n * 2 ^ j ≤ r) : Long M n j (2 * q + 1) (r - n * 2 ^ j) := by
  obtain ⟨h1, h2⟩ := h
  rw [Nat.pow_succ] at h1 h2
  refine ⟨?_, ?_⟩
  · have e : (2 * q + 1) * n * 2 ^ j = q * n * (2 ^ j * 2) + n * 2 ^ j := by
      rw [Nat.add_mul, Nat.add_mul, Nat.one_mul, Nat.mul_comm 2 q, Nat.mul_right_comm q 2 n, Nat.mul_assoc (q * n), Nat.mul_comm 2]
    omega
  · rw [← Nat.mul_assoc] at h2
    omega

theorem long_no (M n j q r : Nat) (h : Long M n (j + 1) q r) (hc : r < n * 2 ^ j) : Long M n j (2 * q) r := by
  obtain ⟨h1, h2⟩ := h
  rw [Nat.pow_succ] at h1
  refine ⟨?_, hc⟩
  have e : 2 * q * n * 2 ^ j = q * n * (2 ^ j * 2) := by
    rw [Nat.mul_comm 2 q, Nat.mul_right_comm q 2 n, Nat.mul_assoc (q * n), Nat.mul_comm 2]
  omega

theorem long_end (M n q r : Nat) (h : Long M n 0 q r) : q = M / n ∧ r = M % n := by
  obtain ⟨h1, h2⟩ := h
  rw [Nat.pow_zero, Nat.mul_one] at h1 h2
  have := Nat.div_mod_unique (a := M) (d := q) (c := r) (b := n) (by omega)
  have h3 := this.2 ⟨by rw [Nat.mul_comm n q]; exact h1, h2⟩
  exact ⟨h3.1.symm, h3.2.symm⟩

theorem long_small (M n j q r : Nat) (h : Long M n j q r) (hn : 0 < n) : q ≤ M ∧ r ≤ M := by
  obtain ⟨h1, _⟩ := h
  have h3 : q * 1 * 1 ≤ q * n * 2 ^ j := Nat.mul_le_mul (Nat.mul_le_mul_left q hn) (Nat.two_pow_pos j)
  rw [Nat.mul_one, Nat.mul_one] at h3
  omega
set_option maxRecDepth 100000 in
set_option maxHeartbeats 8000000 in
theorem div_any (a b : Nat) (ha : a < 18446744073709551616) (hb : b < 18446744073709551616) (w : World) :
    Calls Tryz.prog 25 #[.int .u64 a, .int .u64 b] w fun e w' => e = .returned (.int .u64 (fdiv a b : Nat)) ∧ Below w.heap.size w w' := by
  have hI : INF = 9218868437227405312 := rfl
  have rA := rung_bits a ha
  have rB := rung_bits b hb
  obtain ⟨XX, eX, eS⟩ := xor_bits a b ha hb
  obtain ⟨x, hx⟩ : ∃ x, rungOf a = x := ⟨_, rfl⟩
  obtain ⟨y, hy⟩ : ∃ x, rungOf b = x := ⟨_, rfl⟩
  obtain ⟨sg, hs⟩ : ∃ s, (negOf a ^^ negOf b) = s := ⟨_, rfl⟩
  obtain ⟨W, hW⟩ : ∃ W, fdiv a b = W := ⟨_, rfl⟩
  rw [hW]
  rw [hx] at rA
  rw [hy] at rB
  rw [hs] at eS
  have HX := Lib.hid hx
  have HY := Lib.hid hy
  have HS := Lib.hid hs
  have HW := Lib.hid hW
  have hword : ∀ s : Bool, Ieee.double.word s 0 = sgn s := by intro s; rw [word_eq]; cases s <;> rfl
  clear hx hy hs hW
  by_cases c1 : INF < x
  · have xN : ((x : Int) > 9218868437227405312) := by omega
    have xI : ((x : Int) == 9218868437227405312) = false := by simp; omega
    have xZ : ((x : Int) == 0) = false := by simp; omega
    clear hword
    have hw : W = NAN := by
      rw [← HW.out]
      rw [fdiv_of_nan a b (.inl (by rw [HX.out]; omega))]
    subst hw
    clear HW 
    go_enter Tryz.func25, Tryz.ntmps25
    go_wp2_with fail
    go_ret
    exact ⟨rfl, Below.refl _ _⟩
  · by_cases c2 : INF < y
    · have xN : decide ((x : Int) > 9218868437227405312) = false := by simp; omega
      have yN : ((y : Int) > 9218868437227405312) := by omega
      clear hword
      have hw : W = NAN := by
        rw [← HW.out]
        rw [fdiv_of_nan a b (.inr (by rw [HY.out]; omega))]
      subst hw
      clear HW 
      go_enter Tryz.func25, Tryz.ntmps25
      go_wp2_with fail
      go_ret
      exact ⟨rfl, Below.refl _ _⟩
    · by_cases c3 : x = INF
      · by_cases c4 : y = INF
        · have xN : decide ((x : Int) > 9218868437227405312) = false := by simp; omega
          have xI : ((x : Int) == 9218868437227405312) = true := by simp; omega
          have xZ : ((x : Int) == 0) = false := by simp; omega
          have yN : decide ((y : Int) > 9218868437227405312) = false := by simp; omega
          have yI : ((y : Int) == 9218868437227405312) = true := by simp; omega
          clear hword
          have hw : W = NAN := by
            rw [← HW.out]
            unfold fdiv
            rw [div_infs a b (by rw [HX.out]; omega) (by rw [HY.out]; omega)]; rfl
          subst hw
          clear HW c3 c4
          go_enter Tryz.func25, Tryz.ntmps25
          go_wp2_with fail
          go_ret
          exact ⟨rfl, Below.refl _ _⟩
        · have xN : decide ((x : Int) > 9218868437227405312) = false := by simp; omega
          have xI : ((x : Int) == 9218868437227405312) = true := by simp; omega
          have xZ : ((x : Int) == 0) = false := by simp; omega
          have yN : decide ((y : Int) > 9218868437227405312) = false := by simp; omega
          have yI : ((y : Int) == 9218868437227405312) = false := by simp; omega
          clear hword
          have hw : W = Ieee.double.word sg INF := by
            rw [← HW.out]
            unfold fdiv
            rw [div_inf a b (by rw [HX.out]; omega) (by rw [HY.out]; omega), HS.out]; rfl
          have eo := or_sgn sg INF (by decide)
          rw [← hw] at eo
          have eo2 : bits .or .u64 (sgn sg : Nat) 9218868437227405312 = (W : Int) := eo
          clear HW hw eo c3 c4
          go_enter Tryz.func25, Tryz.ntmps25
          go_wp2_with fail
          go_ret
          exact ⟨rfl, Below.refl _ _⟩
      · by_cases c4 : y = INF
        · by_cases c5 : x = 0
          · have xN : decide ((x : Int) > 9218868437227405312) = false := by simp; omega
            have xI : ((x : Int) == 9218868437227405312) = false := by simp; omega
            have xZ : ((x : Int) == 0) = true := by simp; omega
            have yN : decide ((y : Int) > 9218868437227405312) = false := by simp; omega
            have yI : ((y : Int) == 9218868437227405312) = true := by simp; omega
            have yZ : ((y : Int) == 0) = false := by simp; omega
            have hw : W = sgn sg := by
              rw [← HW.out]
              unfold fdiv
              rw [div_by_inf a b (by rw [HX.out]; omega) (by rw [HY.out]; omega), HS.out]; exact hword sg
            rw [hw]
            clear HW hw c3 c4 c5 hword
            go_enter Tryz.func25, Tryz.ntmps25
            go_wp2_with fail
            go_ret
            exact ⟨rfl, Below.refl _ _⟩
          · have xN : decide ((x : Int) > 9218868437227405312) = false := by simp; omega
            have xI : ((x : Int) == 9218868437227405312) = false := by simp; omega
            have xZ : ((x : Int) == 0) = false := by simp; omega
            have yN : decide ((y : Int) > 9218868437227405312) = false := by simp; omega
            have yI : ((y : Int) == 9218868437227405312) = true := by simp; omega
            have yZ : ((y : Int) == 0) = false := by simp; omega
            have hw : W = sgn sg := by
              rw [← HW.out]
              unfold fdiv
              rw [div_by_inf a b (by rw [HX.out]; omega) (by rw [HY.out]; omega), HS.out]; exact hword sg
            rw [hw]
            clear HW hw c3 c4 c5 hword
            go_enter Tryz.func25, Tryz.ntmps25
            go_wp2_with fail
            go_ret
            exact ⟨rfl, Below.refl _ _⟩
        · by_cases c5 : x = 0
          · by_cases c6 : y = 0
            · have xN : decide ((x : Int) > 9218868437227405312) = false := by simp; omega
              have xI : ((x : Int) == 9218868437227405312) = false := by simp; omega
              have xZ : ((x : Int) == 0) = true := by simp; omega
              have yN : decide ((y : Int) > 9218868437227405312) = false := by simp; omega
              have yI : ((y : Int) == 9218868437227405312) = false := by simp; omega
              have yZ : ((y : Int) == 0) = true := by simp; omega
              clear hword
              have hw : W = NAN := by
                rw [← HW.out]
                unfold fdiv
                rw [div_zeros a b (by rw [HX.out]; omega) (by rw [HY.out]; omega)]; rfl
              subst hw
              clear HW c3 c4 c5 c6
              go_enter Tryz.func25, Tryz.ntmps25
              go_wp2_with fail
              go_ret
              exact ⟨rfl, Below.refl _ _⟩
            · have xN : decide ((x : Int) > 9218868437227405312) = false := by simp; omega
              have xI : ((x : Int) == 9218868437227405312) = false := by simp; omega
              have xZ : ((x : Int) == 0) = true := by simp; omega
              have yN : decide ((y : Int) > 9218868437227405312) = false := by simp; omega
              have yI : ((y : Int) == 9218868437227405312) = false := by simp; omega
              have yZ : ((y : Int) == 0) = false := by simp; omega
              have hw : W = sgn sg := by
                rw [← HW.out]
                unfold fdiv
                rw [div_fin a b (by rw [HX.out]; omega) (by rw [HY.out]; omega) (by rw [HY.out]; omega), HS.out, HX.out, c5, V_zero, Nat.zero_mul, rn_zero]; exact hword sg
              rw [hw]
              clear HW hw c3 c4 c5 c6 hword
              go_enter Tryz.func25, Tryz.ntmps25
              go_wp2_with fail
              go_ret
              exact ⟨rfl, Below.refl _ _⟩
          · by_cases c6 : y = 0
            · have xN : decide ((x : Int) > 9218868437227405312) = false := by simp; omega
              have xI : ((x : Int) == 9218868437227405312) = false := by simp; omega
              have xZ : ((x : Int) == 0) = false := by simp; omega
              have yN : decide ((y : Int) > 9218868437227405312) = false := by simp; omega
              have yI : ((y : Int) == 9218868437227405312) = false := by simp; omega
              have yZ : ((y : Int) == 0) = true := by simp; omega
              clear hword
              have hw : W = Ieee.double.word sg INF := by
                rw [← HW.out]
                unfold fdiv
                rw [div_by_zero a b (by rw [HX.out]; omega) (by rw [HX.out]; omega) (by rw [HY.out]; omega), HS.out]; rfl
              have eo := or_sgn sg INF (by decide)
              rw [← hw] at eo
              have eo2 : bits .or .u64 (sgn sg : Nat) 9218868437227405312 = (W : Int) := eo
              clear HW hw eo c3 c4 c5 c6
              go_enter Tryz.func25, Tryz.ntmps25
              go_wp2_with fail
              go_ret
              exact ⟨rfl, Below.refl _ _⟩
            · have xN : decide ((x : Int) > 9218868437227405312) = false := by simp; omega
              have xI : ((x : Int) == 9218868437227405312) = false := by simp; omega
              have xZ : ((x : Int) == 0) = false := by simp; omega
              have yN : decide ((y : Int) > 9218868437227405312) = false := by simp; omega
              have yI : ((y : Int) == 9218868437227405312) = false := by simp; omega
              have yZ : ((y : Int) == 0) = false := by simp; omega
              have hxa : rungOf a < INF := by rw [HX.out]; omega
              have hyb : rungOf b < INF := by rw [HY.out]; omega
              obtain ⟨e, he⟩ : ∃ e, e = (expOf (rungOf a) : Int) - 1074 := ⟨_, rfl⟩
              obtain ⟨f, hf⟩ : ∃ e, e = (expOf (rungOf b) : Int) - 1074 := ⟨_, rfl⟩
              obtain ⟨m, hm⟩ : ∃ m, m = magOf (rungOf a) := ⟨_, rfl⟩
              obtain ⟨n, hn⟩ : ∃ m, m = magOf (rungOf b) := ⟨_, rfl⟩
              obtain ⟨hq0, hw⟩ := div_ref a b hxa hyb (by rw [HX.out]; exact c5) (by rw [HY.out]; exact c6) e f he hf m n hm hn
              have hm2 : m < 9007199254740992 := by rw [hm]; exact (mag_exp _ hxa).1
              have hn2 : n < 9007199254740992 := by rw [hn]; exact (mag_exp _ hyb).1
              have hn0 : 0 < n := by
                have := mag_zero (rungOf b)
                rw [← hn, HY.out] at this; omega
              have he2 := (mag_exp _ hxa).2
              have hf2 := (mag_exp _ hyb).2
              have p1 := parts_any x (by omega)
              have p2 := parts_any y (by omega)
              rw [← HX.out, ← hm, ← he, HX.out] at p1
              rw [← HY.out, ← hn, ← hf, HY.out] at p2
              obtain ⟨M, hM⟩ : ∃ M, m * 2 ^ 128 = M := ⟨_, rfl⟩
              rw [hM, HS.out, HW.out] at hw
              rw [hM] at hq0
              obtain ⟨g, hg⟩ : ∃ g, e - f - 128 = g := ⟨_, rfl⟩
              rw [hg] at hw
              have hgB : -2500 ≤ g ∧ g ≤ 2500 := by omega
              have he3 : -1074 ≤ e ∧ e ≤ 1000 := by omega
              have hf3 : -1074 ≤ f ∧ f ≤ 1000 := by omega
              have hMB : M < BB ^ 6 := by
                rw [← hM]
                have h1 : m * 2 ^ 128 < 2 ^ 53 * 2 ^ 128 := Nat.mul_lt_mul_of_pos_right hm2 (Nat.two_pow_pos 128)
                exact Nat.lt_trans h1 (by decide)
              have hM185 : M < n * 2 ^ 185 := by
                have h1 : 1 * 2 ^ 185 ≤ n * 2 ^ 185 := Nat.mul_le_mul_right _ hn0
                have h2 : m * 2 ^ 128 < 2 ^ 53 * 2 ^ 128 := Nat.mul_lt_mul_of_pos_right hm2 (Nat.two_pow_pos 128)
                rw [hM] at h2
                exact Nat.lt_of_lt_of_le h2 (Nat.le_trans (by decide) h1)
              have HQ0 := Lib.hid hq0
              have HWW := Lib.hid hw
              have HM := Lib.hid hM
              have HMB := Lib.hid hMB
              have HG := Lib.hid hg
              have H185 := Lib.hid hM185
              have HN0 := Lib.hid hn0
              have o1 := of_any m (by omega)
              have o2 := of_any n (by omega)
              have o3 := of_any 1 (by omega)
              clear hword HW hq0 hw hM hg hMB hM185 he hf hm hn he2 hf2 hxa hyb c3 c4 c5 c6 hn0
              go_enter Tryz.func25, Tryz.ntmps25
              go_wp2_with fail
              refine (p1 _).mono ?_
              rintro e' w1 ⟨rfl, rfl⟩
              go_wp2_with fail
              refine (p2 _).mono ?_
              rintro e' w2 ⟨rfl, rfl⟩
              go_wp2_with fail
              refine (o1 _).mono ?_
              rintro e' w3 ⟨v3, rfl, n3, b3⟩
              have hs3 := shift_any v3 m 128 (by omega) (low_BB m 300 (by omega) (by decide)) w3 n3
              rw [HM.out] at hs3
              go_wp2_with fail
              refine hs3.mono ?_
              rintro e' w4 ⟨v4, rfl, n4, b4⟩
              replace b3 := b3.trans (b4.mono b3.size)
              clear hs3 n3 b4 o1 p1 p2
              go_wp2_with fail
              go_loopw [12, 13, 14, 15] (fun vr vq vi _ wr => ∃ (j q r : Nat), j ≤ 185 ∧ vi = .int .i64 ((j : Int) - 1) ∧ Num wr vr r ∧ Num wr vq q ∧ Hid (Long M n j q r) ∧ Below w2.heap.size w2 wr) (fun _ _ vi _ _ => (intOf vi + 1).toNat)
              case atStart =>
                have ba := (Below.refl w4.heap.size w4).alloc (Nat.le_refl _) (.cells #[] 70)
                exact ⟨185, 0, M, by omega, rfl, n4.kept ba, ⟨[], row_own (own_empty w4) rfl (fun y hy => by simp at hy), .inl rfl, rfl⟩, Lib.hid (long_start M n 185 H185.out), b3.trans (ba.mono b3.size)⟩
              case round =>
                obtain ⟨j, q, r, hj, rfl, nr, nq, HL, bw⟩ := hrel
                rename World => wr
                cases j with
                | zero =>
                  have hz : decide ((((0 : Nat) : Int) - 1) ≥ 0) = false := by decide
                  obtain ⟨hq, hr⟩ := long_end M n q r HL.out
                  have hQB : q < BB ^ 80 := upBB _ 6 80 (Nat.lt_of_le_of_lt (long_small M n 0 q r HL.out HN0.out).1 HMB.out) (by decide)
                  obtain ⟨l, ⟨ao, cap, rfl, h1, h2, h3, h4⟩, hno, hva⟩ := nr
                  have hlz := norm_zero l hno
                  rw [hva] at hlz
                  obtain ⟨p, hp⟩ : ∃ p, l.length = p := ⟨_, rfl⟩
                  rw [hp] at hlz h1 ⊢
                  have hmr : (r != 0) = decide (0 < p) := by
                    rw [Bool.eq_iff_iff, bne_iff_ne, decide_eq_true_iff]; omega
                  have hrd := rounded_any sg u13 q g (decide (0 < p)) hQB (by omega) (by omega) wr nq
                  have hfin : Ieee.double.word sg (if q = 0 then 0 else rungR q (decide (0 < p)) g) = W := by
                    rw [HWW.out, ← hq, ← hr, hmr, if_neg (by rw [hq]; exact HQ0.out)]
                  rw [hfin] at hrd
                  have hge := HG.out
                  clear hfin hQB hq hr h4 h3 hno hva hlz hmr hp
                  go_wp2_with fail
                  refine hrd.mono ?_
                  rintro e' w5 ⟨rfl, b5⟩
                  go_wp2_with fail
                  go_ret
                  exact ⟨rfl, bw.trans (b5.mono bw.size)⟩
                | succ j =>
                  have ej : ((j + 1 : Nat) : Int) - 1 = (j : Int) := by omega
                  rw [ej]
                  have hj0 : (j : Int) ≥ 0 := by omega
                  obtain ⟨T, hT⟩ : ∃ T, n * 2 ^ j = T := ⟨_, rfl⟩
                  have hTB : T < BB ^ 66 := by rw [← hT]; exact mag_shift n j hn2 (by omega)
                  have hsm := long_small M n (j + 1) q r HL.out HN0.out
                  have hrB : r < BB ^ 6 := Nat.lt_of_le_of_lt hsm.2 HMB.out
                  have hqB : q < BB ^ 6 := Nat.lt_of_le_of_lt hsm.1 HMB.out
                  have HT := Lib.hid hT
                  have HTB := Lib.hid hTB
                  have HRB := Lib.hid hrB
                  have HQB := Lib.hid hqB
                  clear ej hT hTB hsm hrB hqB
                  go_wp2_with fail
                  refine (o2 _).mono ?_
                  rintro e' w5 ⟨v5, rfl, n5, b5⟩
                  replace bw := bw.trans (b5.mono bw.size)
                  replace nr := nr.kept b5
                  replace nq := nq.kept b5
                  have hs5 := shift_any v5 n j (by omega) (low_BB n 300 (by omega) (by decide)) w5 n5
                  rw [HT.out] at hs5
                  clear b5
                  go_wp2_with fail
                  refine hs5.mono ?_
                  rintro e' w6 ⟨v6, rfl, n6, b6⟩
                  replace bw := bw.trans (b6.mono bw.size)
                  replace nr := nr.kept b6
                  replace nq := nq.kept b6
                  have ht := times_num u13 q 2 (upBB _ 6 400 HQB.out (by decide)) (by decide) w6 nq
                  clear b6 hs5 n5
                  go_wp2_with fail
                  refine ht.mono ?_
                  rintro e' w7 ⟨v7, rfl, n7, b7⟩
                  replace bw := bw.trans (b7.mono bw.size)
                  replace nr := nr.kept b7
                  replace n6 := n6.kept b7
                  have hcm := compare_any u12 v6 r T (upBB _ 6 400 HRB.out (by decide)) (upBB _ 66 400 HTB.out (by decide)) w7 nr n6
                  obtain ⟨C, hC⟩ : ∃ C, cmpN r T = C := ⟨_, rfl⟩
                  have h3 := cmpN_three r T
                  rw [hC] at hcm h3
                  have H3 := Lib.hid h3
                  clear hC h3 b7 ht nq
                  go_wp2_with fail
                  refine hcm.mono ?_
                  rintro e' w8 ⟨rfl, nd, rfl⟩
                  have bd := below_drewN (Below.refl w7.heap.size w7) nd
                  replace bw := bw.trans (bd.mono bw.size)
                  replace nr := nr.kept bd
                  replace n6 := n6.kept bd
                  replace n7 := n7.kept bd
                  obtain ⟨w8, hw8⟩ : ∃ W8, Hid (W8 = w7.drewN nd) := ⟨_, Lib.hid rfl⟩
                  rw [← hw8.out] at bw nr n6 n7 ⊢
                  clear bd hcm
                  by_cases hc : T ≤ r
                  · have d1 : C ≥ 0 := by have := H3.out; omega
                    have hl := less_any u12 v6 r T (upBB _ 6 400 HRB.out (by decide)) hc w8 nr n6
                    have HN := Lib.hid (long_yes M n j q r HL.out (by rw [HT.out]; exact hc))
                    clear hc
                    go_wp2_with fail
                    refine hl.mono ?_
                    rintro e' w9 ⟨v9, rfl, n9, b9⟩
                    replace bw := bw.trans (b9.mono bw.size)
                    replace n7 := n7.kept b9
                    clear hl b9
                    go_wp2_with fail
                    refine (o3 _).mono ?_
                    rintro e' w10 ⟨v10, rfl, n10, b10⟩
                    replace bw := bw.trans (b10.mono bw.size)
                    replace n7 := n7.kept b10
                    replace n9 := n9.kept b10
                    have h2q : 2 * q < BB ^ 7 := by
                      have e7 : BB ^ 7 = BB ^ 6 * BB := Nat.pow_succ BB 6
                      have := HQB.out
                      rw [e7]; generalize BB ^ 6 = p at *; unfold BB; omega
                    have hsu := sum_any v7 v10 (2 * q) 1 (upBB _ 7 400 h2q (by decide)) (one_lt_BB 400 (by decide)) w10 n7 n10
                    clear b10 h2q
                    go_wp2_with fail
                    refine hsu.mono ?_
                    rintro e' w11 ⟨v11, rfl, n11, b11⟩
                    replace bw := bw.trans (b11.mono bw.size)
                    replace n9 := n9.kept b11
                    go_wp2_with fail
                    go_roundw
                    case rel => exact ⟨j, 2 * q + 1, r - T, by omega, by go_num, n9, n11, Lib.hid (by have := HN.out; rw [HT.out] at this; exact this), bw⟩
                    case measure => simp [intOf]
                  · have d1 : decide (C ≥ 0) = false := by simp; have := H3.out; omega
                    have HN := Lib.hid (long_no M n j q r HL.out (by rw [HT.out]; omega))
                    clear hc
                    go_wp2_with fail
                    go_roundw
                    case rel => exact ⟨j, 2 * q, r, by omega, by go_num, nr, n7, HN, bw⟩
                    case measure => simp [intOf]
end Go.Proofs.YtadlppllbebkdaaGreatDoor
