/- A decimal read off a text. -/
import Derived.Test.YtadlppllbebkdaaGreatDoorZDe
namespace Go.Proofs.YtadlppllbebkdaaGreatDoor
open Go.RowKit

/-- A decimal that was read: maybe nought. -/
def Sd (w0 : World) (q : Nat) (w : World) : Prop := ∃ (g : Nat → Nat) (nd : Nat) (dp : Int) (neg tr : Bool), nd ≤ 800 ∧ Digs g nd ∧ (1 ≤ nd → 49 ≤ g 0) ∧ Dr w0.heap.size q w g nd dp neg tr ∧ Below w0.heap.size w0 w
/-- On the way: with bounds. -/
structure Sr (w0 : World) (q : Nat) (w : World) (g : Nat → Nat) (nd : Nat) (dp : Int) (neg tr : Bool) : Prop where
  le : nd ≤ 800
  digs : Digs g nd
  first : 1 ≤ nd → 49 ≤ g 0
  at_ : Dr w0.heap.size q w g nd dp neg tr
  low : Below w0.heap.size w0 w
theorem Sr.sd {w0 : World} {q : Nat} {w : World} {g : Nat → Nat} {nd : Nat} {dp : Int} {neg tr : Bool} (h : Sr w0 q w g nd dp neg tr) : Sd w0 q w := ⟨g, nd, dp, neg, tr, h.le, h.digs, h.first, h.at_, h.low⟩
theorem Sr.putDp {w0 : World} {q : Nat} {w : World} {g : Nat → Nat} {nd : Nat} {dp : Int} {neg tr : Bool} (h : Sr w0 q w g nd dp neg tr) (x : Int) : Sr w0 q (w.setCell ⟨q, 801, none⟩ (.int .i64 x)) g nd x neg tr :=
  ⟨h.le, h.digs, h.first, h.at_.putDp x, h.low.setCell h.at_.le _⟩
theorem Sr.putTr {w0 : World} {q : Nat} {w : World} {g : Nat → Nat} {nd : Nat} {dp : Int} {neg tr : Bool} (h : Sr w0 q w g nd dp neg tr) (x : Bool) : Sr w0 q (w.setCell ⟨q, 803, none⟩ (.bool x)) g nd dp neg x :=
  ⟨h.le, h.digs, h.first, h.at_.putTr x, h.low.setCell h.at_.le _⟩
theorem Sr.putNeg {w0 : World} {q : Nat} {w : World} {g : Nat → Nat} {nd : Nat} {dp : Int} {neg tr : Bool} (h : Sr w0 q w g nd dp neg tr) (x : Bool) : Sr w0 q (w.setCell ⟨q, 802, none⟩ (.bool x)) g nd dp x tr :=
  ⟨h.le, h.digs, h.first, h.at_.putNeg x, h.low.setCell h.at_.le _⟩
theorem Sr.drewN {w0 : World} {q : Nat} {w : World} {g : Nat → Nat} {nd : Nat} {dp : Int} {neg tr : Bool} (h : Sr w0 q w g nd dp neg tr) (n : Nat) : Sr w0 q (w.drewN n) g nd dp neg tr :=
  ⟨h.le, h.digs, h.first, h.at_.drewN n, below_drewN h.low n⟩
theorem Sr.more {w0 : World} {q : Nat} {w : World} {g : Nat → Nat} {nd : Nat} {dp : Int} {neg tr : Bool} (h : Sr w0 q w g nd dp neg tr) {c : Nat} (h8 : nd < 800) (c1 : 48 ≤ c) (c2 : c ≤ 57) (c0 : nd = 0 → 49 ≤ c) :
    Sr w0 q ((w.setCell ⟨q, nd, none⟩ (.int .u8 (c : Int))).setCell ⟨q, 800, none⟩ (.int .i64 ((nd + 1 : Nat) : Int))) (put g nd c) (nd + 1) dp neg tr := by
  refine ⟨h8, digs_put h.digs c1 c2, fun _ => ?_, (h.at_.putD h8 c).putNd (nd + 1), (h.low.setCell h.at_.le _).setCell h.at_.le _⟩
  by_cases e : nd = 0
  · subst e; rw [put_same]; exact c0 rfl
  · rw [put_ne g c (by omega)]; exact h.first (by omega)

set_option maxRecDepth 100000 in
set_option maxHeartbeats 8000000 in
theorem set_any (w0 : World) (q : Nat) (g : Nat → Nat) (s : ByteArray) (hs : s.size ≤ 140737488355328) (w : World) (D : Dr w0.heap.size q w g 0 0 false false) (low : Below w0.heap.size w0 w) :
    Calls Tryz.prog 150 #[.pointer (some ⟨q, 0, none⟩), .string s] w fun e w' => ∃ v, e = .returned v ∧ IsB v ∧ Sd w0 q w' := by
  have S0 : Sr w0 q w g 0 0 false false := ⟨by omega, fun i hi => absurd hi (Nat.not_lt_zero i), fun h => absurd h (by decide), D, low⟩
  have hlow := lower_any
  have z1 := D.frz 802
  have c1 := D.negc
  have S1 := S0.putNeg false
  have S2 := S1.putTr false
  have z2 := S1.at_.frz 803
  have c2 := S1.at_.trc
  obtain ⟨W1, hW1⟩ : ∃ W, Hid (w.setCell ⟨q, 802, none⟩ (.bool false) = W) := ⟨_, Lib.hid rfl⟩
  obtain ⟨W2, hW2⟩ : ∃ W, Hid (W1.setCell ⟨q, 803, none⟩ (.bool false) = W) := ⟨_, Lib.hid rfl⟩
  rw [hW1.out] at S1 S2 z2 c2
  rw [hW2.out] at S2
  clear S0 D
  have HX := Lib.hid S2
  clear S1 S2
  go_enter Tryz.func150, Tryz.ntmps150
  go_upto_region 3 with fail
  rw [hW1.out]
  clear z1 c1
  go_upto_region 4 with fail
  rw [hW2.out]
  clear z2 c2 hW1 hW2 low
  by_cases h0 : s.size = 0
  · have hE : s = ByteArray.empty := ByteArray.size_eq_zero_iff.1 h0
    have d0 : decide (s = ByteArray.empty) = true := decide_eq_true hE
    have h0' : (s.size : Int) ≤ 0 := by omega
    clear h0 hE
    go_wp2_with fail
    go_ret
    exact ⟨_, rfl, ⟨_, rfl⟩, HX.out.sd⟩
  · have hE : ¬ s = ByteArray.empty := fun e => h0 (by rw [e]; rfl)
    have d0 : decide (s = ByteArray.empty) = false := decide_eq_false hE
    have d0' : (0 : Int) < (s.size : Int) := by omega
    have hs0 : 0 < s.size := by omega
    go_upto_block 0 with fail
    go_cut [5] from 23 to 33 (fun s5 wy => ∃ (i : Nat) (neg : Bool), s5 = .int .i64 i ∧ i ≤ 1 ∧ Hid (Sr w0 q wy g 0 0 neg false))
    case first =>
      obtain ⟨c, hc⟩ : ∃ c, s[0] = c := ⟨_, rfl⟩
      have c255 : c.toNat < 256 := c.toNat_lt
      by_cases a1 : c.toNat = 43
      · have a1' : ((c.toNat : Int) == 43) = true := by rw [beq_iff_eq]; omega
        clear a1
        go_wp2_with fail
        go_meet
        exact ⟨1, false, rfl, by omega, HX⟩
      · have a1' : ((c.toNat : Int) == 43) = false := by rw [beq_eq_false_iff_ne]; omega
        by_cases a2 : c.toNat = 45
        · have a2' : ((c.toNat : Int) == 45) = true := by rw [beq_iff_eq]; omega
          have z1 := HX.out.at_.frz 802
          have c1 := HX.out.at_.negc
          have HX' := Lib.hid (HX.out.putNeg true)
          clear a2
          go_wp2_with fail
          go_meet
          exact ⟨1, true, rfl, by omega, HX'⟩
        · have a2' : ((c.toNat : Int) == 45) = false := by rw [beq_eq_false_iff_ne]; omega
          go_wp2_with fail
          go_meet
          exact ⟨0, false, rfl, by omega, HX⟩
    case rest =>
      clear HX
      obtain ⟨i0, neg, rfl, hi0, HX⟩ := hcut
      go_upto_block 1 with fail
      go_cut [5, 6, 7] from 34 to 116 (fun s5 s6 s7 wy => ∃ (i : Nat) (sd sg : Bool) (g : Nat → Nat) (nd : Nat) (dp : Int) (tr : Bool), s5 = .int .i64 i ∧ s6 = .bool sd ∧ s7 = .bool sg ∧ i ≤ s.size ∧ -140737488355328 ≤ dp ∧ dp ≤ 800 ∧ Hid (Sr w0 q wy g nd dp neg tr))
      case first =>
        go_wp2_with fail
        go_loopw [5, 6, 7] (fun s5 s6 s7 wr => ∃ (i : Nat) (sd sg : Bool) (g : Nat → Nat) (nd : Nat) (dp : Int) (tr : Bool), s5 = .int .i64 i ∧ s6 = .bool sd ∧ s7 = .bool sg ∧ i ≤ s.size ∧ -(i : Int) ≤ dp ∧ dp ≤ 800 ∧ Hid (Sr w0 q wr g nd dp neg tr)) (fun s5 _ _ _ => s.size - (intOf s5).toNat)
        case atStart => exact ⟨i0, false, false, g, 0, 0, false, rfl, rfl, rfl, by omega, by omega, by omega, HX⟩
        case round =>
          clear HX hi0
          obtain ⟨i, sd, sg, g, nd, dp, tr, rfl, rfl, rfl, hi, p1, p2, HX⟩ := hrel
          by_cases his : i < s.size
          · have his' : (i : Int) < (s.size : Int) := by omega
            obtain ⟨c, hc⟩ : ∃ c, s[i] = c := ⟨_, rfl⟩
            have c255 : c.toNat < 256 := c.toNat_lt
            by_cases a1 : c.toNat = 95
            · have a1' : ((c.toNat : Int) == 95) = true := by rw [beq_iff_eq]; omega
              clear a1
              go_wp2_with fail
              exact ⟨⟨i + 1, sd, sg, g, nd, dp, tr, rfl, rfl, rfl, his, by omega, p2, HX⟩, by simp [intOf] <;> omega⟩
            · have a1' : ((c.toNat : Int) == 95) = false := by rw [beq_eq_false_iff_ne]; omega
              by_cases a2 : c.toNat = 46
              · have a2' : ((c.toNat : Int) == 46) = true := by rw [beq_iff_eq]; omega
                clear a2
                cases sd with
                | true =>
                  go_wp2_with fail
                  go_ret
                  exact ⟨_, rfl, ⟨_, rfl⟩, HX.out.sd⟩
                | false =>
                  have n8 := HX.out.le
                  have e1 := HX.out.at_.ndc
                  have e2 := HX.out.at_.dpc
                  have z1 := HX.out.at_.frz 801
                  have HX' := Lib.hid (HX.out.putDp (nd : Int))
                  clear HX
                  go_wp2_with fail
                  exact ⟨⟨i + 1, true, sg, g, nd, _, tr, rfl, rfl, rfl, his, by omega, by omega, HX'⟩, by simp [intOf] <;> omega⟩
              · have a2' : ((c.toNat : Int) == 46) = false := by rw [beq_eq_false_iff_ne]; omega
                by_cases a3 : 48 ≤ c.toNat
                · have a3' : (48 : Int) ≤ (c.toNat : Int) := by omega
                  by_cases a4 : c.toNat ≤ 57
                  · have a4' : (c.toNat : Int) ≤ 57 := by omega
                    have e1 := HX.out.at_.ndc
                    have e2 := HX.out.at_.dpc
                    have n8 := HX.out.le
                    by_cases a5 : c.toNat = 48 ∧ nd = 0
                    · have a5' : ((c.toNat : Int) == 48) = true := by rw [beq_iff_eq]; omega
                      have a6' : ((nd : Int) == 0) = true := by rw [beq_iff_eq]; omega
                      have z1 := HX.out.at_.frz 801
                      have HX' := Lib.hid (HX.out.putDp (dp - 1))
                      clear HX a5
                      go_wp2_with fail
                      exact ⟨⟨i + 1, sd, true, g, nd, _, tr, rfl, rfl, rfl, his, by omega, by omega, HX'⟩, by simp [intOf] <;> omega⟩
                    · by_cases a7 : nd < 800
                      · have a7' : (nd : Int) < 800 := by omega
                        have HM := Lib.hid (HX.out.more a7 a3 a4 (fun e => by omega))
                        have z1 := HX.out.at_.frz nd
                        obtain ⟨y, e3⟩ : ∃ y, wr.cell? ⟨q, nd, none⟩ = some y := ⟨_, HX.out.at_.dig nd a7⟩
                        obtain ⟨W, hW⟩ : ∃ W, Hid (wr.setCell ⟨q, nd, none⟩ (.int .u8 (c.toNat : Int)) = W) := ⟨_, Lib.hid rfl⟩
                        have DW := HX.out.at_.putD a7 c.toNat
                        have LW : Below w0.heap.size w0 (wr.setCell ⟨q, nd, none⟩ (.int .u8 (c.toNat : Int))) := HX.out.low.setCell HX.out.at_.le _
                        rw [hW.out] at DW LW
                        go_upto_region 22 with fail
                        go_cut [79] from 69 to 78 (fun s79 wy => s79 = .bool false ∧ wy = wr)
                        case first =>
                          by_cases a8 : c.toNat = 48
                          · have a8' : ((c.toNat : Int) == 48) = true := by rw [beq_iff_eq]; omega
                            have a9' : ((nd : Int) == 0) = false := by rw [beq_eq_false_iff_ne]; omega
                            clear a8
                            go_wp2_with fail
                            go_meet
                            exact ⟨rfl, rfl⟩
                          · have a8' : ((c.toNat : Int) == 48) = false := by rw [beq_eq_false_iff_ne]; omega
                            go_wp2_with fail
                            go_meet
                            exact ⟨rfl, rfl⟩
                        case rest =>
                          obtain ⟨rfl, hwc⟩ := hcut
                          obtain rfl : wr = wc := hwc.symm
                          clear a5
                          go_upto_region 25 with fail
                          go_region_with (fail)
                          all_goals
                            rw [hW.out]
                            obtain ⟨V, hV⟩ : ∃ V, Hid (W.drew = V) := ⟨_, Lib.hid rfl⟩
                            have DV := DW.drewN 1
                            have LV := below_drewN LW 1
                            have hV' : Hid (W.drewN 1 = V) := hV
                            rw [hV'.out] at DV LV
                            rw [hV.out]
                            have e1 := DV.ndc
                            have z1 := DV.frz 800
                            have eN : (nd : Int) + 1 = ((nd + 1 : Nat) : Int) := by omega
                            have HX' : Hid (Sr w0 q (V.setCell ⟨q, 800, none⟩ (.int .i64 ((nd + 1 : Nat) : Int))) (put g nd c.toNat) (nd + 1) dp neg tr) := Lib.hid ⟨HM.out.le, HM.out.digs, HM.out.first, DV.putNd (nd + 1), LV.setCell DV.le _⟩
                            rw [← eN] at HX'
                            clear HM HX DW LW hW hV hV' eN e2 e3 LV DV
                            go_wp2_with fail
                            exact ⟨⟨i + 1, sd, true, _, nd + 1, dp, tr, rfl, rfl, rfl, his, by omega, p2, HX'⟩, by simp [intOf] <;> omega⟩
                      · have a7' : decide ((nd : Int) < 800) = false := by simp; omega
                        have a7'' : (800 : Int) ≤ (nd : Int) := by omega
                        have a9' : ((nd : Int) == 0) = false := by rw [beq_eq_false_iff_ne]; omega
                        clear a5
                        by_cases a8 : c.toNat = 48
                        · have a8' : ((c.toNat : Int) == 48) = true := by rw [beq_iff_eq]; omega
                          clear a8
                          go_wp2_with fail
                          exact ⟨⟨i + 1, sd, true, g, nd, dp, tr, rfl, rfl, rfl, his, by omega, p2, HX⟩, by simp [intOf] <;> omega⟩
                        · have a8' : ((c.toNat : Int) == 48) = false := by rw [beq_eq_false_iff_ne]; omega
                          have z1 := HX.out.at_.frz 803
                          have e3 := HX.out.at_.trc
                          have HX' := Lib.hid (HX.out.putTr true)
                          clear HX
                          go_wp2_with fail
                          exact ⟨⟨i + 1, sd, true, g, nd, dp, true, rfl, rfl, rfl, his, by omega, p2, HX'⟩, by simp [intOf] <;> omega⟩
                  · have a4' : decide ((c.toNat : Int) ≤ 57) = false := by simp; omega
                    have a4'' : (57 : Int) < (c.toNat : Int) := by omega
                    go_wp2_with fail
                    go_meet
                    exact ⟨i, sd, sg, g, nd, dp, tr, rfl, rfl, rfl, hi, by omega, p2, HX⟩
                · have a3' : decide ((48 : Int) ≤ (c.toNat : Int)) = false := by simp; omega
                  have a3'' : (c.toNat : Int) < 48 := by omega
                  go_wp2_with fail
                  go_meet
                  exact ⟨i, sd, sg, g, nd, dp, tr, rfl, rfl, rfl, hi, by omega, p2, HX⟩
          · have his' : decide ((i : Int) < (s.size : Int)) = false := by simp; omega
            have his2 : s.size ≤ i := by omega
            go_wp2_with fail
            go_meet
            exact ⟨i, sd, sg, g, nd, dp, tr, rfl, rfl, rfl, hi, by omega, p2, HX⟩
      case rest =>
        clear HX hi0
        obtain ⟨i, sd, sg, g, nd, dp, tr, rfl, rfl, rfl, hi, p1, p2, HX⟩ := hcut
        cases sg with
        | false =>
          go_wp2_with fail
          go_ret
          exact ⟨_, rfl, ⟨_, rfl⟩, HX.out.sd⟩
        | true =>
        go_upto_if 120 with fail
        go_cut [120] from 120 to 127 (fun _ wy => ∃ (dp : Int), -140737488355328 ≤ dp ∧ dp ≤ 800 ∧ Hid (Sr w0 q wy g nd dp neg tr))
        case first =>
          cases sd with
          | true =>
            go_wp2_with fail
            go_meet
            exact ⟨dp, p1, p2, HX⟩
          | false =>
            have n8 := HX.out.le
            have e1 := HX.out.at_.ndc
            have e2 := HX.out.at_.dpc
            have z1 := HX.out.at_.frz 801
            have HX' := Lib.hid (HX.out.putDp (nd : Int))
            go_wp2_with fail
            go_meet
            exact ⟨_, by omega, by omega, HX'⟩
        case rest =>
          clear HX p1 p2
          obtain ⟨dp, p1, p2, HX⟩ := hcut
          go_upto_region 32 with fail
          go_cut [138] from 128 to 137 (fun s138 wy => ∃ b : Bool, s138 = .bool b ∧ Hid (b = true → i < s.size) ∧ Hid (Sr w0 q wy g nd dp neg tr))
          case first =>
            by_cases his : i < s.size
            · have his' : (i : Int) < (s.size : Int) := by omega
              obtain ⟨c, hc⟩ : ∃ c, s[i] = c := ⟨_, rfl⟩
              have c255 : c.toNat < 256 := c.toNat_lt
              have hl := hlow c.toNat c255
              obtain ⟨d, hd⟩ : ∃ d, Hid (c.toNat ||| 32 = d) := ⟨_, Lib.hid rfl⟩
              rw [hd.out] at hl
              go_wp2_with fail
              refine (hl _).mono ?_
              rintro e w' ⟨rfl, rfl⟩
              go_wp2_with fail
              go_meet
              exact ⟨_, rfl, Lib.hid (fun _ => his), HX⟩
            · have his' : decide ((i : Int) < (s.size : Int)) = false := by simp; omega
              have his2 : s.size ≤ i := by omega
              go_wp2_with fail
              go_meet
              exact ⟨false, rfl, Lib.hid (fun h => absurd h (by decide)), HX⟩
          case rest =>
            clear HX
            obtain ⟨bb, rfl, HB, HX⟩ := hcut
            go_upto_if 138 with fail
            go_cut [5, 8, 9, 138] from 138 to 219 (fun s5 _ _ _ wy => ∃ (i : Nat), s5 = .int .i64 i ∧ i ≤ s.size ∧ Hid (Sd w0 q wy))
            case first =>
              cases bb with
              | false =>
                go_wp2_with fail
                go_meet
                exact ⟨i, rfl, hi, Lib.hid HX.out.sd⟩
              | true =>
                have his := HB.out rfl
                clear HB
                obtain ⟨j, hj⟩ : ∃ j, Hid (i + 1 = j) := ⟨_, Lib.hid rfl⟩
                have ej : (i : Int) + 1 = (j : Int) := by have := hj.out; omega
                have js : j ≤ s.size := by have := hj.out; omega
                have j1 : j ≤ 140737488355328 := by omega
                by_cases h2 : j < s.size
                · have h2' : (j : Int) < (s.size : Int) := by omega
                  have h2'' : decide ((s.size : Int) ≤ (j : Int)) = false := by simp; omega
                  have h2n : decide (s.size ≤ j) = false := by simp; omega
                  obtain ⟨c, hc⟩ : ∃ c, s[j] = c := ⟨_, rfl⟩
                  have c255 : c.toNat < 256 := c.toNat_lt
                  go_upto_block 4 with fail
                  go_cut [5, 8] from 148 to 155 (fun s5 s8 wy => ∃ (k : Nat) (x : Int), s5 = .int .i64 k ∧ s8 = .int .i64 x ∧ k ≤ s.size ∧ Hid (x = 1 ∨ x = -1) ∧ Hid (Sr w0 q wy g nd dp neg tr))
                  case first =>
                    obtain ⟨k, hk⟩ : ∃ k, Hid (j + 1 = k) := ⟨_, Lib.hid rfl⟩
                    have ek : (j : Int) + 1 = (k : Int) := by have := hk.out; omega
                    have ks : k ≤ s.size := by have := hk.out; omega
                    by_cases a1 : c.toNat = 43
                    · have a1' : ((c.toNat : Int) == 43) = true := by rw [beq_iff_eq]; omega
                      clear a1 ej
                      go_wp2_with fail
                      go_meet
                      exact ⟨k, 1, rfl, rfl, ks, Lib.hid (.inl rfl), HX⟩
                    · have a1' : ((c.toNat : Int) == 43) = false := by rw [beq_eq_false_iff_ne]; omega
                      by_cases a2 : c.toNat = 45
                      · have a2' : ((c.toNat : Int) == 45) = true := by rw [beq_iff_eq]; omega
                        clear a2 ej
                        go_wp2_with fail
                        go_meet
                        exact ⟨k, -1, rfl, rfl, ks, Lib.hid (.inr rfl), HX⟩
                      · have a2' : ((c.toNat : Int) == 45) = false := by rw [beq_eq_false_iff_ne]; omega
                        clear ej
                        go_wp2_with fail
                        go_meet
                        exact ⟨j, 1, rfl, rfl, js, Lib.hid (.inl rfl), HX⟩
                  case rest =>
                    clear HX
                    obtain ⟨k, x, rfl, rfl, ks, HX1, HX⟩ := hcut
                    go_upto_region 42 with fail
                    go_cut [171] from 156 to 170 (fun s171 wy => ∃ b : Bool, s171 = .bool b ∧ Hid (Sr w0 q wy g nd dp neg tr))
                    case first =>
                      by_cases his3 : k < s.size
                      · have d1 : decide ((s.size : Int) ≤ (k : Int)) = false := by simp; omega
                        have d1n : decide (s.size ≤ k) = false := by simp; omega
                        have d1' : (k : Int) < (s.size : Int) := by omega
                        obtain ⟨c2, hc2⟩ : ∃ c, s[k] = c := ⟨_, rfl⟩
                        have c2255 : c2.toNat < 256 := c2.toNat_lt
                        by_cases a1 : c2.toNat < 48
                        · have a1' : (c2.toNat : Int) < 48 := by omega
                          go_wp2_with fail
                          go_meet
                          exact ⟨_, rfl, HX⟩
                        · have a1' : decide ((c2.toNat : Int) < 48) = false := by simp; omega
                          have a1'' : (48 : Int) ≤ (c2.toNat : Int) := by omega
                          go_wp2_with fail
                          go_meet
                          exact ⟨_, rfl, HX⟩
                      · have d1 : (s.size : Int) ≤ (k : Int) := by omega
                        go_wp2_with fail
                        go_meet
                        exact ⟨_, rfl, HX⟩
                    case rest =>
                      clear HX
                      obtain ⟨b3, rfl, HX⟩ := hcut
                      cases b3 with
                      | true =>
                        go_wp2_with fail
                        go_ret
                        exact ⟨_, rfl, ⟨_, rfl⟩, HX.out.sd⟩
                      | false =>
                        go_upto_block 5 with fail
                        go_cut [5, 9] from 172 to 209 (fun s5 s9 wy => ∃ (k e : Nat), s5 = .int .i64 k ∧ s9 = .int .i64 e ∧ k ≤ s.size ∧ e ≤ 99999 ∧ Hid (Sr w0 q wy g nd dp neg tr))
                        case first =>
                          go_wp2_with fail
                          go_loopw [5, 9] (fun s5 s9 wr => ∃ (k e : Nat), s5 = .int .i64 k ∧ s9 = .int .i64 e ∧ k ≤ s.size ∧ e ≤ 99999 ∧ Hid (Sr w0 q wr g nd dp neg tr)) (fun s5 _ _ => s.size - (intOf s5).toNat)
                          case atStart => exact ⟨k, 0, rfl, rfl, ks, by omega, HX⟩
                          case round =>
                            clear HX ks
                            obtain ⟨k, e, rfl, rfl, ks, he, HX⟩ := hrel
                            by_cases hks : k < s.size
                            · have d1 : (k : Int) < (s.size : Int) := by omega
                              obtain ⟨c2, hc2⟩ : ∃ c, s[k] = c := ⟨_, rfl⟩
                              have c2255 : c2.toNat < 256 := c2.toNat_lt
                              by_cases u1 : c2.toNat = 95
                              · have u1' : ((c2.toNat : Int) == 95) = true := by rw [beq_iff_eq]; omega
                                have u2 : (48 : Int) ≤ (c2.toNat : Int) := by omega
                                have u3 : decide ((c2.toNat : Int) ≤ 57) = false := by simp; omega
                                have u3' : (57 : Int) < (c2.toNat : Int) := by omega
                                clear u1
                                go_wp2_with fail
                                exact ⟨⟨k + 1, e, rfl, rfl, hks, he, HX⟩, by simp [intOf] <;> omega⟩
                              · have u1' : ((c2.toNat : Int) == 95) = false := by rw [beq_eq_false_iff_ne]; omega
                                by_cases u2 : 48 ≤ c2.toNat
                                · have u2' : (48 : Int) ≤ (c2.toNat : Int) := by omega
                                  by_cases u3 : c2.toNat ≤ 57
                                  · have u3' : (c2.toNat : Int) ≤ 57 := by omega
                                    by_cases u4 : e < 10000
                                    · have u4' : (e : Int) < 10000 := by omega
                                      obtain ⟨e2, he2⟩ : ∃ e2, Hid (e * 10 + c2.toNat - 48 = e2) := ⟨_, Lib.hid rfl⟩
                                      have ee2 : (e : Int) * 10 + (c2.toNat : Int) - 48 = (e2 : Int) := by have := he2.out; omega
                                      have e2b : e2 ≤ 99999 := by have := he2.out; omega
                                      go_wp2_with fail
                                      exact ⟨⟨k + 1, e2, rfl, rfl, hks, e2b, HX⟩, by simp [intOf] <;> omega⟩
                                    · have u4' : decide ((e : Int) < 10000) = false := by simp; omega
                                      have u4'' : (10000 : Int) ≤ (e : Int) := by omega
                                      go_wp2_with fail
                                      exact ⟨⟨k + 1, e, rfl, rfl, hks, he, HX⟩, by simp [intOf] <;> omega⟩
                                  · have u3' : decide ((c2.toNat : Int) ≤ 57) = false := by simp; omega
                                    have u3'' : (57 : Int) < (c2.toNat : Int) := by omega
                                    go_wp2_with fail
                                    go_meet
                                    exact ⟨k, e, rfl, rfl, ks, he, HX⟩
                                · have u2' : decide ((48 : Int) ≤ (c2.toNat : Int)) = false := by simp; omega
                                  have u2'' : (c2.toNat : Int) < 48 := by omega
                                  go_wp2_with fail
                                  go_meet
                                  exact ⟨k, e, rfl, rfl, ks, he, HX⟩
                            · have d1 : decide ((k : Int) < (s.size : Int)) = false := by simp; omega
                              have d1' : s.size ≤ k := by omega
                              go_wp2_with fail
                              go_meet
                              exact ⟨k, e, rfl, rfl, ks, he, HX⟩
                        case rest =>
                          clear HX ks
                          obtain ⟨k, e, rfl, rfl, ks, he, HX⟩ := hcut
                          obtain ⟨p, hp⟩ : ∃ p, Hid ((e : Int) * x = p) := ⟨_, Lib.hid rfl⟩
                          have ep : (e : Int) * x = p := hp.out
                          have pb : -99999 ≤ p ∧ p ≤ 99999 := by
                            rw [← hp.out]
                            rcases HX1.out with h | h <;> rw [h] <;> omega
                          obtain ⟨p3, p4⟩ := pb
                          have e1 := HX.out.at_.dpc
                          have z1 := HX.out.at_.frz 801
                          have HX' := Lib.hid (HX.out.putDp (dp + p)).sd
                          clear HX
                          go_wp2_with fail
                          go_meet
                          exact ⟨k, rfl, ks, HX'⟩
                · have h2'' : (s.size : Int) ≤ (j : Int) := by omega
                  go_wp2_with fail
                  go_ret
                  exact ⟨_, rfl, ⟨_, rfl⟩, HX.out.sd⟩
            case rest =>
              clear HX
              obtain ⟨i2, rfl, hi2, HX⟩ := hcut
              by_cases he : i2 = s.size
              · have d1 : ((i2 : Int) == (s.size : Int)) = true := by rw [beq_iff_eq]; omega
                clear he
                go_wp2_with fail
                go_ret
                exact ⟨_, rfl, ⟨_, rfl⟩, HX.out⟩
              · have d1 : ((i2 : Int) == (s.size : Int)) = false := by rw [beq_eq_false_iff_ne]; omega
                go_wp2_with fail
                go_ret
                exact ⟨_, rfl, ⟨_, rfl⟩, HX.out⟩
end Go.Proofs.YtadlppllbebkdaaGreatDoor
