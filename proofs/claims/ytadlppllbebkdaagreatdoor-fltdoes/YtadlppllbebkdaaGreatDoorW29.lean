/- The document's order of two floats. -/
import Derived.Test.YtadlppllbebkdaaGreatDoorW27
namespace Go.Proofs.YtadlppllbebkdaaGreatDoor
open Go.RowKit

theorem not_bits (a : Nat) (h : a < 18446744073709551616) : bits .xor .u64 (if IntKind.u64.signed = true then -1 else IntKind.u64.max) (a : Int) = ((18446744073709551615 - a : Nat) : Int) := by
  have e : (if IntKind.u64.signed = true then -1 else IntKind.u64.max) = ((18446744073709551615 : Nat) : Int) := by kernel_rfl
  rw [e, u64_xor_nat _ a (by omega) h]
  have h2 := congrArg BitVec.toNat (BitVec.allOnes_xor (x := BitVec.ofNat 64 a))
  rw [BitVec.toNat_xor, BitVec.toNat_not, BitVec.toNat_allOnes, BitVec.toNat_ofNat, Nat.mod_eq_of_lt h] at h2
  have h3 : 18446744073709551615 ^^^ a = 18446744073709551615 - a := h2
  rw [h3]

theorem or_top (a : Nat) (h : a < 9223372036854775808) : bits .or .u64 (a : Int) 9223372036854775808 = ((a + 9223372036854775808 : Nat) : Int) := by
  have h1 := or_sgn true a h
  rw [word_eq, if_pos rfl] at h1
  have h2 := u64_or_nat a 9223372036854775808 (by omega) (by omega)
  have h3 := u64_or_nat 9223372036854775808 a (by omega) (by omega)
  rw [show ((9223372036854775808 : Nat) : Int) = 9223372036854775808 from rfl] at h2 h3
  rw [h2, Nat.or_comm, ← h3, show (9223372036854775808 : Int) = ((sgn true : Nat) : Int) from rfl, h1]
  omega

def keyN (a : Nat) : Nat := if negOf a then 18446744073709551615 - a else a + 9223372036854775808

theorem neg_split (a : Nat) (h : a < 18446744073709551616) : (negOf a = true ∧ a = 9223372036854775808 + rungOf a) ∨ (negOf a = false ∧ a = rungOf a) := by
  have e := word_of a h
  rw [word_eq] at e
  cases hh : negOf a
  · right; rw [hh] at e; exact ⟨rfl, e.symm⟩
  · left; rw [hh] at e; exact ⟨rfl, e.symm⟩

theorem fless_keyN (a b : Nat) (ha : a < 18446744073709551616) (hb : b < 18446744073709551616) (h1 : rungOf a ≤ INF) (h2 : rungOf b ≤ INF) (h0 : ¬ (rungOf a = 0 ∧ rungOf b = 0)) : fless a b = decide (keyN a < keyN b) := by
  rw [fless_key a b h1 h2, decide_eq_decide]
  unfold K keyN
  have v1 := V_lt_iff (rungOf a) (rungOf b)
  have v2 := V_lt_iff (rungOf b) (rungOf a)
  have p1 : 0 < rungOf a → 0 < V (rungOf a) := V_pos (rungOf a)
  have p2 : 0 < rungOf b → 0 < V (rungOf b) := V_pos (rungOf b)
  have l1 := rungOf_lt a
  have l2 := rungOf_lt b
  rcases neg_split a ha with ⟨n1, e1⟩ | ⟨n1, e1⟩ <;> rcases neg_split b hb with ⟨n2, e2⟩ | ⟨n2, e2⟩ <;> rw [n1, n2] <;> simp only [if_true, Bool.false_eq_true, if_false] <;> omega

set_option maxRecDepth 100000 in
set_option maxHeartbeats 4000000 in
theorem below_any (a b : Nat) (ha : a < 18446744073709551616) (hb : b < 18446744073709551616) (w : World) :
    Calls Tryz.prog 26 #[.int .u64 a, .int .u64 b] w fun e w' => e = .returned (.int .i64 (if fless a b then 1 else 0)) ∧ w' = w := by
  have hI : INF = 9218868437227405312 := rfl
  have rA := rung_bits a ha
  have rB := rung_bits b hb
  have hNa := isNaN23 a ha
  have hNb := isNaN23 b hb
  have sA := sgn_bits a ha
  have sB := sgn_bits b hb
  by_cases c1 : INF < rungOf a
  · rw [fless_of_nan a b (.inl c1)]
    rw [decide_eq_true c1] at hNa
    clear hNb
    go_enter Tryz.func26, Tryz.ntmps26
    go_wp2_with (go_at_call 23; refine (hNa _).mono ?_; rintro e w1 ⟨rfl, rfl⟩)
    go_ret
    exact ⟨rfl, rfl⟩
  · rw [decide_eq_false c1] at hNa
    by_cases c2 : INF < rungOf b
    · rw [fless_of_nan a b (.inr c2)]
      rw [decide_eq_true c2] at hNb
      go_enter Tryz.func26, Tryz.ntmps26
      go_wp2_with fail
      refine (hNa _).mono ?_
      rintro e w1 ⟨rfl, rfl⟩
      go_wp2_with fail
      refine (hNb _).mono ?_
      rintro e w1 ⟨rfl, rfl⟩
      go_wp2_with fail
      go_ret
      exact ⟨rfl, rfl⟩
    · rw [decide_eq_false c2] at hNb
      by_cases c3 : rungOf a = 0 ∧ rungOf b = 0
      · have hf : fless a b = false := by
          rw [fless_key a b (by omega) (by omega), decide_eq_false_iff_not]
          unfold K
          rw [c3.1, c3.2, V_zero]
          cases negOf a <;> cases negOf b <;> simp
        rw [hf]
        obtain ⟨c3, c4⟩ := c3
        rw [c3] at rA
        rw [c4] at rB
        clear hf c3 c4 c1 c2
        go_enter Tryz.func26, Tryz.ntmps26
        go_wp2_with fail
        refine (hNa _).mono ?_
        rintro e w1 ⟨rfl, rfl⟩
        go_wp2_with fail
        refine (hNb _).mono ?_
        rintro e w1 ⟨rfl, rfl⟩
        go_wp2_with fail
        go_ret
        exact ⟨rfl, rfl⟩
      · obtain ⟨R, hR⟩ : ∃ R : Int, R = if fless a b = true then 1 else 0 := ⟨_, rfl⟩
        rw [← hR]
        rw [fless_keyN a b ha hb (by omega) (by omega) c3] at hR
        have HR := Lib.hid hR
        clear hR
        have HC := Lib.hid c3
        have nA := neg_split a ha
        have nB := neg_split b hb
        clear c1 c2 c3
        go_enter Tryz.func26, Tryz.ntmps26
        go_upto_region 1 with fail
        go_cut [22] from 7 to 22 (fun s22 wy => s22 = .bool false ∧ wy = w)
        case first =>
          clear nA nB
          obtain ⟨x, hx⟩ : ∃ x, rungOf a = x := ⟨_, rfl⟩
          obtain ⟨y, hy⟩ : ∃ x, rungOf b = x := ⟨_, rfl⟩
          rw [hx] at rA
          rw [hy] at rB
          have hc := HC.out
          rw [hx, hy] at hc
          replace HC := Lib.hid hc
          clear hx hy hc
          by_cases c5 : x = 0
          · have d5 : ((x : Int) == 0) = true := by simp; omega
            have d6 : ((y : Int) == 0) = false := by simp; have := HC.out; omega
            clear c5
            go_wp2_with fail
            refine (hNa _).mono ?_
            rintro e w1 ⟨rfl, rfl⟩
            go_wp2_with fail
            refine (hNb _).mono ?_
            rintro e w1 ⟨rfl, rfl⟩
            go_wp2_with fail
            go_meet
            case rel => exact ⟨rfl, rfl⟩
          · have d5 : ((x : Int) == 0) = false := by simp; omega
            clear c5
            go_wp2_with fail
            refine (hNa _).mono ?_
            rintro e w1 ⟨rfl, rfl⟩
            go_wp2_with fail
            refine (hNb _).mono ?_
            rintro e w1 ⟨rfl, rfl⟩
            go_wp2_with fail
            go_meet
            case rel => exact ⟨rfl, rfl⟩
        case rest =>
          obtain ⟨rfl, rfl⟩ := hcut
          clear hNa hNb HC rA rB
          have eT : ((sgn true : Nat) : Int) = 9223372036854775808 := rfl
          have eF : ((sgn false : Nat) : Int) = 0 := rfl
          have l1 := rungOf_lt a
          have l2 := rungOf_lt b
          obtain ⟨ka, hka⟩ : ∃ k, k = keyN a := ⟨_, rfl⟩
          obtain ⟨kb, hkb⟩ : ∃ k, k = keyN b := ⟨_, rfl⟩
          have HKA := Lib.hid hka
          have HKB := Lib.hid hkb
          rcases nA with ⟨n1, e1⟩ | ⟨n1, e1⟩
          · rcases nB with ⟨n2, e2⟩ | ⟨n2, e2⟩
            · have m1 : bits .xor .u64 (if IntKind.u64.signed = true then -1 else IntKind.u64.max) (a : Int) = (ka : Int) := by
                rw [not_bits a ha, hka]; unfold keyN; rw [n1]; rfl
              rw [n1, eT] at sA
              have m2 : bits .xor .u64 (if IntKind.u64.signed = true then -1 else IntKind.u64.max) (b : Int) = (kb : Int) := by
                rw [not_bits b hb, hkb]; unfold keyN; rw [n2]; rfl
              rw [n2, eT] at sB
              clear n1 n2 e1 e2 eT eF hka hkb l1 l2
              by_cases hlt : ka < kb
              · have hl : (ka : Int) < (kb : Int) := by omega
                go_wp2_with fail
                go_ret
                have hR : R = 1 := by rw [HR.out, ← HKA.out, ← HKB.out, decide_eq_true hlt]; rfl
                exact ⟨by rw [hR]; rfl, rfl⟩
              · have hl : decide ((ka : Int) < (kb : Int)) = false := by simp; omega
                go_wp2_with fail
                go_ret
                have hR : R = 0 := by rw [HR.out, ← HKA.out, ← HKB.out, decide_eq_false hlt]; rfl
                exact ⟨by rw [hR]; rfl, rfl⟩
            · have m1 : bits .xor .u64 (if IntKind.u64.signed = true then -1 else IntKind.u64.max) (a : Int) = (ka : Int) := by
                rw [not_bits a ha, hka]; unfold keyN; rw [n1]; rfl
              rw [n1, eT] at sA
              have m2 : bits .or .u64 (b : Int) 9223372036854775808 = (kb : Int) := by
                rw [or_top b (by omega), hkb]; unfold keyN; rw [n2]; rfl
              rw [n2, eF] at sB
              clear n1 n2 e1 e2 eT eF hka hkb l1 l2
              by_cases hlt : ka < kb
              · have hl : (ka : Int) < (kb : Int) := by omega
                go_wp2_with fail
                go_ret
                have hR : R = 1 := by rw [HR.out, ← HKA.out, ← HKB.out, decide_eq_true hlt]; rfl
                exact ⟨by rw [hR]; rfl, rfl⟩
              · have hl : decide ((ka : Int) < (kb : Int)) = false := by simp; omega
                go_wp2_with fail
                go_ret
                have hR : R = 0 := by rw [HR.out, ← HKA.out, ← HKB.out, decide_eq_false hlt]; rfl
                exact ⟨by rw [hR]; rfl, rfl⟩
          · rcases nB with ⟨n2, e2⟩ | ⟨n2, e2⟩
            · have m1 : bits .or .u64 (a : Int) 9223372036854775808 = (ka : Int) := by
                rw [or_top a (by omega), hka]; unfold keyN; rw [n1]; rfl
              rw [n1, eF] at sA
              have m2 : bits .xor .u64 (if IntKind.u64.signed = true then -1 else IntKind.u64.max) (b : Int) = (kb : Int) := by
                rw [not_bits b hb, hkb]; unfold keyN; rw [n2]; rfl
              rw [n2, eT] at sB
              clear n1 n2 e1 e2 eT eF hka hkb l1 l2
              by_cases hlt : ka < kb
              · have hl : (ka : Int) < (kb : Int) := by omega
                go_wp2_with fail
                go_ret
                have hR : R = 1 := by rw [HR.out, ← HKA.out, ← HKB.out, decide_eq_true hlt]; rfl
                exact ⟨by rw [hR]; rfl, rfl⟩
              · have hl : decide ((ka : Int) < (kb : Int)) = false := by simp; omega
                go_wp2_with fail
                go_ret
                have hR : R = 0 := by rw [HR.out, ← HKA.out, ← HKB.out, decide_eq_false hlt]; rfl
                exact ⟨by rw [hR]; rfl, rfl⟩
            · have m1 : bits .or .u64 (a : Int) 9223372036854775808 = (ka : Int) := by
                rw [or_top a (by omega), hka]; unfold keyN; rw [n1]; rfl
              rw [n1, eF] at sA
              have m2 : bits .or .u64 (b : Int) 9223372036854775808 = (kb : Int) := by
                rw [or_top b (by omega), hkb]; unfold keyN; rw [n2]; rfl
              rw [n2, eF] at sB
              clear n1 n2 e1 e2 eT eF hka hkb l1 l2
              by_cases hlt : ka < kb
              · have hl : (ka : Int) < (kb : Int) := by omega
                go_wp2_with fail
                go_ret
                have hR : R = 1 := by rw [HR.out, ← HKA.out, ← HKB.out, decide_eq_true hlt]; rfl
                exact ⟨by rw [hR]; rfl, rfl⟩
              · have hl : decide ((ka : Int) < (kb : Int)) = false := by simp; omega
                go_wp2_with fail
                go_ret
                have hR : R = 0 := by rw [HR.out, ← HKA.out, ← HKB.out, decide_eq_false hlt]; rfl
                exact ⟨by rw [hR]; rfl, rfl⟩
end Go.Proofs.YtadlppllbebkdaaGreatDoor
