/- The document's order of two floats. -/
import Derived.Test.YtfkdaimhdjaefaaDoorGFa
import Derived.Test.YtfkdaimhdjaefaaDoorGFg
namespace Go.Proofs.YtfkdaimhdjaefaaDoor.Flt
open Go.RowKit

theorem not_bits (a : Nat) (h : a < 18446744073709551616) : bits .xor .u64 (if IntKind.u64.signed = true then -1 else IntKind.u64.max) (a : Int) = ((18446744073709551615 - a : Nat) : Int) := by
  have e : (if IntKind.u64.signed = true then -1 else IntKind.u64.max) = ((18446744073709551615 : Nat) : Int) := by kernel_rfl
  rw [e, u64_xor_nat _ a (by omega) h]
  have h2 := congrArg BitVec.toNat (BitVec.allOnes_xor (x := BitVec.ofNat 64 a))
  rw [BitVec.toNat_xor, BitVec.toNat_not, BitVec.toNat_allOnes, BitVec.toNat_ofNat, Nat.mod_eq_of_lt h] at h2
  have h3 : 18446744073709551615 ^^^ a = 18446744073709551615 - a := h2
  rw [h3]

theorem or_top (a : Nat) (h : a < 9223372036854775808) : bits .or .u64 (a : Int) 9223372036854775808 = ((a + 9223372036854775808 : Nat) : Int) := by
  have h1 := or_sgn true a h
  rw [word_eq, if_pos rfl] at h1
  have h2 := u64_or_nat a 9223372036854775808 (by omega) (by omega)
  have h3 := u64_or_nat 9223372036854775808 a (by omega) (by omega)
  rw [show ((9223372036854775808 : Nat) : Int) = 9223372036854775808 from rfl] at h2 h3
  rw [h2, Nat.or_comm, ← h3, show (9223372036854775808 : Int) = ((sgn true : Nat) : Int) from rfl, h1]
  omega

def keyN (a : Nat) : Nat := if negOf a then 18446744073709551615 - a else a + 9223372036854775808

theorem neg_split (a : Nat) (h : a < 18446744073709551616) : (negOf a = true ∧ a = 9223372036854775808 + rungOf a) ∨ (negOf a = false ∧ a = rungOf a) := by
  have e := word_of a h
  rw [word_eq] at e
  cases hh : negOf a
  · right; rw [hh] at e; exact ⟨rfl, e.symm⟩
  · left; rw [hh] at e; exact ⟨rfl, e.symm⟩

theorem fless_keyN (a b : Nat) (ha : a < 18446744073709551616) (hb : b < 18446744073709551616) (h1 : rungOf a ≤ INF) (h2 : rungOf b ≤ INF) (h0 : ¬ (rungOf a = 0 ∧ rungOf b = 0)) : fless a b = decide (keyN a < keyN b) := by
  rw [fless_key a b h1 h2, decide_eq_decide]
  unfold K keyN
  have v1 := V_lt_iff (rungOf a) (rungOf b)
  have v2 := V_lt_iff (rungOf b) (rungOf a)
  have p1 : 0 < rungOf a → 0 < V (rungOf a) := V_pos (rungOf a)
  have p2 : 0 < rungOf b → 0 < V (rungOf b) := V_pos (rungOf b)
  have l1 := rungOf_lt a
  have l2 := rungOf_lt b
  rcases neg_split a ha with ⟨n1, e1⟩ | ⟨n1, e1⟩ <;> rcases neg_split b hb with ⟨n2, e2⟩ | ⟨n2, e2⟩ <;> rw [n1, n2] <;> simp only [if_true, Bool.false_eq_true, if_false] <;> omega

set_option maxRecDepth 100000 in
set_option maxHeartbeats 4000000 in
theorem below_any (a b : Nat) (ha : a < 18446744073709551616) (hb : b < 18446744073709551616) (w : World) :
    Calls Tryd.prog 42 #[.int .u64 a, .int .u64 b] w fun e w' => e = .returned (.int .i64 (if fless a b then 1 else 0)) ∧ w' = w := by
  have hI : INF = 9218868437227405312 := rfl
  have rA := rung_bits a ha
  have rB := rung_bits b hb
  have hNa := isNaN23 a ha
  have hNb := isNaN23 b hb
  have sA := sgn_bits a ha
  have sB := sgn_bits b hb
  by_cases c1 : INF < rungOf a
  · rw [fless_of_nan a b (.inl c1)]
    rw [decide_eq_true c1] at hNa
    clear hNb
    go_enter Tryd.func42, Tryd.ntmps42
    go_wp2_with (go_at_call 39; refine (hNa _).mono ?_; rintro e w1 ⟨rfl, rfl⟩)
    go_ret
    exact ⟨rfl, rfl⟩
  · rw [decide_eq_false c1] at hNa
    by_cases c2 : INF < rungOf b
    · rw [fless_of_nan a b (.inr c2)]
      rw [decide_eq_true c2] at hNb
      go_enter Tryd.func42, Tryd.ntmps42
      go_wp2_with fail
      refine (hNa _).mono ?_
      rintro e w1 ⟨rfl, rfl⟩
      go_wp2_with fail
      refine (hNb _).mono ?_
      rintro e w1 ⟨rfl, rfl⟩
      go_wp2_with fail
      go_ret
      exact ⟨rfl, rfl⟩
    · rw [decide_eq_false c2] at hNb
      by_cases c3 : rungOf a = 0 ∧ rungOf b = 0
      · have hf : fless a b = false := by
          rw [fless_key a b (by omega) (by omega), decide_eq_false_iff_not]
          unfold K
          rw [c3.1, c3.2, V_zero]
          cases negOf a <;> cases negOf b <;> simp
        rw [hf]
        obtain ⟨c3, c4⟩ := c3
        rw [c3] at rA
        rw [c4] at rB
        clear hf c3 c4 c1 c2
        go_enter Tryd.func42, Tryd.ntmps42
        go_wp2_with fail
        refine (hNa _).mono ?_
        rintro e w1 ⟨rfl, rfl⟩
        go_wp2_with fail
        refine (hNb _).mono ?_
        rintro e w1 ⟨rfl, rfl⟩
        go_wp2_with fail
        go_ret
        exact ⟨rfl, rfl⟩
      · obtain ⟨R, hR⟩ : ∃ R : Int, R = if fless a b = true then 1 else 0 := ⟨_, rfl⟩
        rw [← hR]
        rw [fless_keyN a b ha hb (by omega) (by omega) c3] at hR
        have HR := Lib.hid hR
        clear hR
        have HC := Lib.hid c3
        have nA := neg_split a ha
        have nB := neg_split b hb
        clear c1 c2 c3
        go_enter Tryd.func42, Tryd.ntmps42
        go_upto_region 1 with fail
        go_cut [22] from 7 to 22 (fun s22 wy => s22 = .bool false ∧ wy = w)
        case first =>
          clear nA nB
          obtain ⟨x, hx⟩ : ∃ x, rungOf a = x := ⟨_, rfl⟩
          obtain ⟨y, hy⟩ : ∃ x, rungOf b = x := ⟨_, rfl⟩
          rw [hx] at rA
          rw [hy] at rB
          have hc := HC.out
          rw [hx, hy] at hc
          replace HC := Lib.hid hc
          clear hx hy hc
          by_cases c5 : x = 0
          · have d5 : ((x : Int) == 0) = true := by simp; omega
            have d6 : ((y : Int) == 0) = false := by simp; have := HC.out; omega
            clear c5
            go_wp2_with fail
            refine (hNa _).mono ?_
            rintro e w1 ⟨rfl, rfl⟩
            go_wp2_with fail
            refine (hNb _).mono ?_
            rintro e w1 ⟨rfl, rfl⟩
            go_wp2_with fail
            go_meet
            case rel => exact ⟨rfl, rfl⟩
          · have d5 : ((x : Int) == 0) = false := by simp; omega
            clear c5
            go_wp2_with fail
            refine (hNa _).mono ?_
            rintro e w1 ⟨rfl, rfl⟩
            go_wp2_with fail
            refine (hNb _).mono ?_
            rintro e w1 ⟨rfl, rfl⟩
            go_wp2_with fail
            go_meet
            case rel => exact ⟨rfl, rfl⟩
        case rest =>
          obtain ⟨rfl, rfl⟩ := hcut
          clear hNa hNb HC rA rB
          have eT : ((sgn true : Nat) : Int) = 9223372036854775808 := rfl
          have eF : ((sgn false : Nat) : Int) = 0 := rfl
          have l1 := rungOf_lt a
          have l2 := rungOf_lt b
          obtain ⟨ka, hka⟩ : ∃ k, k = keyN a := ⟨_, rfl⟩
          obtain ⟨kb, hkb⟩ : ∃ k, k = keyN b := ⟨_, rfl⟩
          have HKA := Lib.hid hka
          have HKB := Lib.hid hkb
          rcases nA with ⟨n1, e1⟩ | ⟨n1, e1⟩
          · rcases nB with ⟨n2, e2⟩ | ⟨n2, e2⟩
            · have m1 : bits .xor .u64 (if IntKind.u64.signed = true then -1 else IntKind.u64.max) (a : Int) = (ka : Int) := by
                rw [not_bits a ha, hka]; unfold keyN; rw [n1]; rfl
              rw [n1, eT] at sA
              have m2 : bits .xor .u64 (if IntKind.u64.signed = true then -1 else IntKind.u64.max) (b : Int) = (kb : Int) := by
                rw [not_bits b hb, hkb]; unfold keyN; rw [n2]; rfl
              rw [n2, eT] at sB
              clear n1 n2 e1 e2 eT eF hka hkb l1 l2
              by_cases hlt : ka < kb
              · have hl : (ka : Int) < (kb : Int) := by omega
                go_wp2_with fail
                go_ret
                have hR : R = 1 := by rw [HR.out, ← HKA.out, ← HKB.out, decide_eq_true hlt]; rfl
                exact ⟨by rw [hR]; rfl, rfl⟩
              · have hl : decide ((ka : Int) < (kb : Int)) = false := by simp; omega
                go_wp2_with fail
                go_ret
                have hR : R = 0 := by rw [HR.out, ← HKA.out, ← HKB.out, decide_eq_false hlt]; rfl
                exact ⟨by rw [hR]; rfl, rfl⟩
            · have m1 : bits .xor .u64 (if IntKind.u64.signed = true then -1 else IntKind.u64.max) (a : Int) = (ka : Int) := by
                rw [not_bits a ha, hka]; unfold keyN; rw [n1]; rfl
              rw [n1, eT] at sA
              have m2 : bits .or .u64 (b : Int) 9223372036854775808 = (kb : Int) := by
                rw [or_top b (by omega), hkb]; unfold keyN; rw [n2]; rfl
              rw [n2, eF] at sB
              clear n1 n2 e1 e2 eT eF hka hkb l1 l2
              by_cases hlt : ka < kb
              · have hl : (ka : Int) < (kb : Int) := by omega
                go_wp2_with fail
                go_ret
                have hR : R = 1 := by rw [HR.out, ← HKA.out, ← HKB.out, decide_eq_true hlt]; rfl
                exact ⟨by rw [hR]; rfl, rfl⟩
              · have hl : decide ((ka : Int) < (kb : Int)) = false := by simp; omega
                go_wp2_with fail
                go_ret
                have hR : R = 0 := by rw [HR.out, ← HKA.out, ← HKB.out, decide_eq_false hlt]; rfl
                exact ⟨by rw [hR]; rfl, rfl⟩
          · rcases nB with ⟨n2, e2⟩ | ⟨n2, e2⟩
            · have m1 : bits .or .u64 (a : Int) 9223372036854775808 = (ka : Int) := by
                rw [or_top a (by omega), hka]; unfold keyN; rw [n1]; rfl
              rw [n1, eF] at sA
              have m2 : bits .xor .u64 (if IntKind.u64.signed = true then -1 else IntKind.u64.max) (b : Int) = (kb : Int) := by
                rw [not_bits b hb, hkb]; unfold keyN; rw [n2]; rfl
              rw [n2, eT] at sB
              clear n1 n2 e1 e2 eT eF hka hkb l1 l2
              by_cases hlt : ka < kb
              · have hl : (ka : Int) < (kb : Int) := by omega
                go_wp2_with fail
                go_ret
                have hR : R = 1 := by rw [HR.out, ← HKA.out, ← HKB.out, decide_eq_true hlt]; rfl
                exact ⟨by rw [hR]; rfl, rfl⟩
              · have hl : decide ((ka : Int) < (kb : Int)) = false := by simp; omega
                go_wp2_with fail
                go_ret
                have hR : R = 0 := by rw [HR.out, ← HKA.out, ← HKB.out, decide_eq_false hlt]; rfl
                exact ⟨by rw [hR]; rfl, rfl⟩
            · have m1 : bits .or .u64 (a : Int) 9223372036854775808 = (ka : Int) := by
                rw [or_top a (by omega), hka]; unfold keyN; rw [n1]; rfl
              rw [n1, eF] at sA
              have m2 : bits .or .u64 (b : Int) 9223372036854775808 = (kb : Int) := by
                rw [or_top b (by omega), hkb]; unfold keyN; rw [n2]; rfl
              rw [n2, eF] at sB
              clear n1 n2 e1 e2 eT eF hka hkb l1 l2
              by_cases hlt : ka < kb
              · have hl : (ka : Int) < (kb : Int) := by omega
                go_wp2_with fail
                go_ret
                have hR : R = 1 := by rw [HR.out, ← HKA.out, ← HKB.out, decide_eq_true hlt]; rfl
                exact ⟨by rw [hR]; rfl, rfl⟩
              · have hl : decide ((ka : Int) < (kb : Int)) = false := by simp; omega
                go_wp2_with fail
                go_ret
                have hR : R = 0 := by rw [HR.out, ← HKA.out, ← HKB.out, decide_eq_false hlt]; rfl
                exact ⟨by rw [hR]; rfl, rfl⟩
end Go.Proofs.YtfkdaimhdjaefaaDoor.Flt

/- The document's whole number of a float. -/
namespace Go.Proofs.YtfkdaimhdjaefaaDoor.Flt
open Go.RowKit

theorem fwhole_big (a : Nat) (h1 : BIG ≤ rungOf a) (h2 : rungOf a ≤ INF) : fwhole a = if negOf a then -9223372036854775808 else 9223372036854775807 := by
  have hV := V_le _ _ h1
  rw [V_big] at hV
  unfold fwhole
  rw [if_neg (by omega)]
  have hu := Nat.two_pow_pos unit
  have hp : 0 < 2 ^ 63 * 2 ^ unit := Nat.mul_pos (by decide) hu
  unfold K part
  cases negOf a
  · simp only [Bool.false_eq_true, if_false]
    rw [if_pos (by omega)]; rfl
  · simp only [if_true]
    rw [if_neg (by omega)]
    by_cases hc : -((V (rungOf a) : Nat) : Int) < -((2 ^ 63 * 2 ^ unit : Nat) : Int)
    · rw [if_pos hc]; rfl
    · rw [if_neg hc]
      have e : V (rungOf a) = 2 ^ 63 * 2 ^ unit := by omega
      rw [e, Nat.mul_div_cancel _ hu]; rfl

theorem fwhole_small (a : Nat) (h1 : rungOf a < BIG) : V (rungOf a) / 2 ^ unit < 9223372036854775808 ∧ fwhole a = if negOf a then -((V (rungOf a) / 2 ^ unit : Nat) : Int) else ((V (rungOf a) / 2 ^ unit : Nat) : Int) := by
  have hV := V_lt _ _ h1
  rw [V_big] at hV
  have hu := Nat.two_pow_pos unit
  refine ⟨by rw [Nat.div_lt_iff_lt_mul hu, show (9223372036854775808 : Nat) = 2 ^ 63 by rfl]; exact hV, ?_⟩
  unfold fwhole
  have hb : BIG < INF := by decide
  rw [if_neg (by omega)]
  unfold K part
  cases negOf a
  · simp only [Bool.false_eq_true, if_false]
    rw [if_neg (by omega), if_neg (by omega)]
  · simp only [if_true]
    rw [if_neg (by omega), if_neg (by omega)]

/-- The parts of a float that is not too great. -/
theorem small_parts (r : Nat) (h : r < BIG) (E D NE : Nat) (hE : E = expOf r - 1074) (hD : D = 1074 - expOf r) (hN : NE = magOf r * 2 ^ E) :
    V r / 2 ^ unit = NE / 2 ^ D ∧ NE < 9223372036854775808 := by
  have hu : unit = 1074 := rfl
  have hI : BIG < INF := by decide
  have hm : magOf r < 2 ^ 53 := (mag_exp r (by omega)).1
  have hV := V_lt _ _ h
  rw [V_big] at hV
  by_cases hc : 1074 ≤ expOf r
  · have hD0 : D = 0 := by omega
    have e1 : V r = NE * 2 ^ unit := by
      unfold V
      rw [hN, Nat.mul_assoc, ← pow_add', show E + unit = expOf r by omega]
    rw [e1] at hV ⊢
    rw [hD0, Nat.pow_zero, Nat.div_one, Nat.mul_div_cancel _ (Nat.two_pow_pos unit)]
    refine ⟨rfl, ?_⟩
    rw [show (9223372036854775808 : Nat) = 2 ^ 63 by rfl]
    exact Nat.lt_of_mul_lt_mul_right hV
  · have hE0 : E = 0 := by omega
    have e1 : NE = magOf r := by rw [hN, hE0, Nat.pow_zero, Nat.mul_one]
    refine ⟨?_, by omega⟩
    unfold V
    rw [e1, show unit = D + expOf r by omega, pow_add', Nat.mul_div_mul_right _ _ (Nat.two_pow_pos _)]

set_option maxRecDepth 100000 in
set_option maxHeartbeats 4000000 in
theorem whole_any (a : Nat) (ha : a < 18446744073709551616) (w : World) :
    Calls Tryd.prog 44 #[.int .u64 a] w fun e w' => e = .returned (.int .i64 (fwhole a)) ∧ w' = w := by
  have hI : INF = 9218868437227405312 := rfl
  have hB : BIG = 4890909195324358656 := rfl
  have rA := rung_bits a ha
  have sA := sgn_bits a ha
  have hNa := isNaN23 a ha
  obtain ⟨x, hx⟩ : ∃ x, rungOf a = x := ⟨_, rfl⟩
  obtain ⟨R, hR⟩ : ∃ R, fwhole a = R := ⟨_, rfl⟩
  obtain ⟨s, hs⟩ : ∃ s, negOf a = s := ⟨_, rfl⟩
  rw [hx] at rA hNa
  rw [hs] at sA
  rw [hR]
  by_cases c1 : INF < x
  · have hz : R = 0 := by rw [← hR]; unfold fwhole; rw [hx, if_pos c1]
    rw [decide_eq_true c1] at hNa
    rw [hz]
    clear hz hR hx hs
    go_enter Tryd.func44, Tryd.ntmps44
    go_wp2_with (go_at_call 39; refine (hNa _).mono ?_; rintro e w1 ⟨rfl, rfl⟩)
    go_ret
    exact ⟨rfl, rfl⟩
  · rw [decide_eq_false c1] at hNa
    by_cases c2 : BIG ≤ x
    · have hf := fwhole_big a (by rw [hx]; exact c2) (by rw [hx]; omega)
      have d1 : (x : Int) ≥ 4890909195324358656 := by omega
      rw [hR, hs] at hf
      cases s
      · have hf2 : R = 9223372036854775807 := hf
        have sA2 : bits .and .u64 (a : Int) 9223372036854775808 = 0 := sA
        rw [hf2]
        clear hf hf2 hR hx hs sA c2
        go_enter Tryd.func44, Tryd.ntmps44
        go_wp2_with (go_at_call 39; refine (hNa _).mono ?_; rintro e w1 ⟨rfl, rfl⟩)
        go_ret
        exact ⟨rfl, rfl⟩
      · have hf2 : R = -9223372036854775808 := hf
        have sA2 : bits .and .u64 (a : Int) 9223372036854775808 = 9223372036854775808 := sA
        rw [hf2]
        clear hf hf2 hR hx hs sA c2
        go_enter Tryd.func44, Tryd.ntmps44
        go_wp2_with (go_at_call 39; refine (hNa _).mono ?_; rintro e w1 ⟨rfl, rfl⟩)
        go_ret
        exact ⟨rfl, rfl⟩
    · have d1 : decide ((x : Int) ≥ 4890909195324358656) = false := by simp; omega
      obtain ⟨hf1, hf⟩ := fwhole_small a (by rw [hx]; omega)
      rw [hx] at hf hf1
      rw [hR, hs] at hf
      obtain ⟨E, hE⟩ : ∃ E, E = expOf x - 1074 := ⟨_, rfl⟩
      obtain ⟨D, hD⟩ : ∃ D, D = 1074 - expOf x := ⟨_, rfl⟩
      obtain ⟨NE, hNE⟩ : ∃ NN, NN = magOf x * 2 ^ E := ⟨_, rfl⟩
      obtain ⟨q1, q2⟩ := small_parts x (by omega) E D NE hE hD hNE
      rw [q1] at hf hf1
      have p1 := parts_any x (by omega)
      obtain ⟨m, hm⟩ : ∃ m, magOf x = m := ⟨_, rfl⟩
      obtain ⟨ei, hei⟩ : ∃ j : Int, (expOf x : Int) - 1074 = j := ⟨_, rfl⟩
      have hx2 := (mag_exp x (by omega)).2
      have hm2 : m < 9007199254740992 := by rw [← hm]; exact (mag_exp x (by omega)).1
      rw [hm, hei] at p1
      rw [hm] at hNE
      have hEe : (E : Int) = ei ∨ (E = 0 ∧ ei < 0) := by omega
      have hDe : (D : Int) = -ei ∨ (D = 0 ∧ 0 ≤ ei) := by omega
      have hEB : E ≤ 2000 := by omega
      have hDB : D ≤ 2000 := by omega
      have heiB : -1074 ≤ ei ∧ ei ≤ 1000 := by omega
      have HEe := Lib.hid hEe
      have HDe := Lib.hid hDe
      have HF := Lib.hid hf
      have HF1 := Lib.hid hf1
      have HNE := Lib.hid hNE
      have HQ2 := Lib.hid q2
      clear hEe hDe hf hf1 hNE q1 q2 hE hD hm hei hx2 hR hx hs c1 c2
      go_enter Tryd.func44, Tryd.ntmps44
      go_wp2_with fail
      refine (hNa _).mono ?_
      rintro e w1 ⟨rfl, rfl⟩
      go_wp2_with fail
      refine (p1 _).mono ?_
      rintro e w2 ⟨rfl, rfl⟩
      clear p1 hNa
      go_wp2_with fail
      go_loopw [6, 7] (fun vn vi wr => ∃ i y : Nat, vn = .int .u64 y ∧ vi = .int .i64 i ∧ i ≤ E ∧ Hid (y = m * 2 ^ i) ∧ wr = w2) (fun _ vi _ => E - (intOf vi).toNat)
      case atStart => exact ⟨0, m, rfl, rfl, by omega, Lib.hid (by simp), rfl⟩
      case round =>
        obtain ⟨i, y, rfl, rfl, hi, HY, rfl⟩ := hrel
        rename World => wr
        by_cases hlt : i < E
        · have d2 : (i : Int) < ei := by have := HEe.out; omega
          have hy : 2 * y ≤ NE := by
            rw [HNE.out, HY.out, Nat.mul_left_comm, Nat.mul_comm 2, ← Nat.pow_succ]
            exact Nat.mul_le_mul_left _ (Nat.pow_le_pow_right (by decide) hlt)
          have hy2 : 2 * y < 9223372036854775808 := Nat.lt_of_le_of_lt hy HQ2.out
          clear hy
          go_wp2_with fail
          go_roundw
          case rel => exact ⟨i + 1, 2 * y, by go_num, by go_num, by omega, Lib.hid (by rw [HY.out, Nat.pow_succ, Nat.mul_comm (2 ^ i) 2, Nat.mul_left_comm]), trivial⟩
          case measure => simp [intOf]; omega
        · have d2 : decide ((i : Int) < ei) = false := by simp; have := HEe.out; omega
          have hiE : i = E := by omega
          have hyN : y = NE := by rw [HY.out, HNE.out, hiE]
          clear HY hiE hlt hi
          rw [hyN]
          clear hyN
          go_wp2_with fail
          go_loopw [6, 8] (fun vn vi wq => ∃ j z : Nat, vn = .int .u64 z ∧ vi = .int .i64 (-(j : Int)) ∧ j ≤ D ∧ Hid (z = NE / 2 ^ j) ∧ Hid (z ≤ NE) ∧ wq = wr) (fun _ vi _ => D - (-(intOf vi)).toNat)
          case atStart => exact ⟨0, NE, rfl, rfl, by omega, Lib.hid (by simp), Lib.hid (Nat.le_refl _), rfl⟩
          case round =>
            obtain ⟨j, z, rfl, rfl, hj, HZ, HZ2, rfl⟩ := hrel
            have hz2 : z < 9223372036854775808 := by have := HZ2.out; have := HQ2.out; omega
            by_cases hjD : j < D
            · have d3 : -(j : Int) > ei := by have := HDe.out; omega
              by_cases hz : z = 0
              · have hzn : z = NE / 2 ^ D := by
                  have h1 : NE / 2 ^ j = 0 := by rw [← HZ.out]; exact hz
                  have h2 : NE < 2 ^ j := by
                    rcases Nat.lt_or_ge NE (2 ^ j) with h | h
                    · exact h
                    · have := Nat.div_pos h (Nat.two_pow_pos j); omega
                  rw [hz, Nat.div_eq_of_lt (Nat.lt_of_lt_of_le h2 (Nat.pow_le_pow_right (by decide) (by omega)))]
                subst hz
                have HZN := Lib.hid hzn
                clear hzn
                cases s
                · have hR : R = 0 := by rw [HF.out, ← HZN.out]; rfl
                  have HR := Lib.hid hR
                  have sA2 : bits .and .u64 (a : Int) 9223372036854775808 = 0 := sA
                  clear sA hR
                  go_wp2_with fail
                  go_ret
                  exact ⟨by rw [HR.out]; rfl, rfl⟩
                · have hR : R = 0 := by rw [HF.out, ← HZN.out]; rfl
                  have HR := Lib.hid hR
                  have sA2 : bits .and .u64 (a : Int) 9223372036854775808 = 9223372036854775808 := sA
                  clear sA hR
                  go_wp2_with fail
                  go_ret
                  exact ⟨by rw [HR.out]; rfl, rfl⟩
              · have d4 : (z : Int) > 0 := by omega
                obtain ⟨y2, hy2⟩ : ∃ y, z / 2 = y := ⟨_, rfl⟩
                have eu : (z : Int) / 2 = (y2 : Int) := by omega
                have et : (z : Int).tdiv 2 = (y2 : Int) := by rw [← hy2]; exact Int.ofNat_tdiv z 2
                have HY2 := Lib.hid hy2
                have hle : y2 ≤ z := by omega
                clear hy2 hz
                go_wp2_with fail
                go_roundw
                case rel => exact ⟨j + 1, y2, rfl, by go_num, by omega, Lib.hid (by rw [← HY2.out, HZ.out, Nat.pow_succ, Nat.div_div_eq_div_mul]), Lib.hid (by have := HZ2.out; omega), trivial⟩
                case measure => simp [intOf]; omega
            · have d3 : decide (-(j : Int) > ei) = false := by simp; have := HDe.out; omega
              have hzn : z = NE / 2 ^ D := by rw [HZ.out, show j = D by omega]
              have HZN := Lib.hid hzn
              clear hzn
              cases s
              · have hR : R = (z : Int) := by rw [HF.out, ← HZN.out]; rfl
                have HR := Lib.hid hR
                have sA2 : bits .and .u64 (a : Int) 9223372036854775808 = 0 := sA
                clear sA hR
                go_wp2_with fail
                go_ret
                exact ⟨by rw [HR.out]; rfl, rfl⟩
              · have hR : R = -(z : Int) := by rw [HF.out, ← HZN.out]; rfl
                have HR := Lib.hid hR
                have sA2 : bits .and .u64 (a : Int) 9223372036854775808 = 9223372036854775808 := sA
                clear sA hR
                go_wp2_with fail
                go_ret
                exact ⟨by rw [HR.out]; rfl, rfl⟩
end Go.Proofs.YtfkdaimhdjaefaaDoor.Flt
