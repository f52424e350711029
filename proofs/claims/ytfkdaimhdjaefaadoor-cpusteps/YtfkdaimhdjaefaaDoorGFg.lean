/- The document's rounding. -/
import Derived.Test.YtfkdaimhdjaefaaDoorFW12
import Derived.Test.YtfkdaimhdjaefaaDoorFW24
import Derived.Test.YtfkdaimhdjaefaaDoorGFm
import Derived.Deep.CutRange
import Derived.Deep.MidRow
namespace Go.Proofs.YtfkdaimhdjaefaaDoor.Flt
open Go.RowKit

def sgn (s : Bool) : Nat := if s then 9223372036854775808 else 0

theorem or_sgn (s : Bool) (q : Nat) (h : q < 9223372036854775808) : bits .or .u64 (sgn s : Nat) (q : Int) = ((Ieee.double.word s q : Nat) : Int) := by
  have h1 := u64_or_nat (sgn s) q (by cases s <;> simp [sgn]) (by omega)
  rw [h1, word_eq]
  cases s
  · simp [sgn]
  · have h2 := Nat.shiftLeft_add_eq_or_of_lt (i := 63) (show q < 2 ^ 63 by omega) 1
    rw [Nat.shiftLeft_eq, Nat.one_mul] at h2
    have e : sgn true = 2 ^ 63 := rfl
    rw [e, ← h2]; rfl

theorem keep_eq (Q : Nat) (s : Bool) (f : Nat) (hf : 1 ≤ f) : keep Q s f = Q / 2 ^ f + (if cmpN (Q % 2 ^ f) (2 ^ (f - 1)) = 1 then 1 else if cmpN (Q % 2 ^ f) (2 ^ (f - 1)) = 0 then (s || Q / 2 ^ f % 2 == 1).toNat else 0) := by
  unfold keep
  obtain ⟨g, rfl⟩ : ∃ g, f = g + 1 := ⟨f - 1, by omega⟩
  have hp : 2 ^ (g + 1) = 2 * 2 ^ g := by rw [Nat.pow_succ, Nat.mul_comm]
  rw [show g + 1 - 1 = g by omega]
  generalize Q % 2 ^ (g + 1) = r
  generalize Q / 2 ^ (g + 1) = q
  rw [hp]
  generalize 2 ^ g = x
  rcases Nat.lt_trichotomy r x with h | h | h
  · have c : cmpN r x = -1 := by unfold cmpN; rw [if_pos h]
    have a1 : decide (2 * x < 2 * r) = false := by rw [decide_eq_false_iff_not]; omega
    have a2 : (2 * x == 2 * r) = false := by rw [beq_eq_false_iff_ne]; omega
    rw [a1, a2, c]; rfl
  · subst h
    have c : cmpN r r = 0 := by unfold cmpN; rw [if_neg (by omega), if_neg (by omega)]
    have a1 : decide (2 * r < 2 * r) = false := by rw [decide_eq_false_iff_not]; omega
    have a2 : (2 * r == 2 * r) = true := beq_self_eq_true _
    rw [a1, a2, c, Bool.false_or, Bool.true_and]; rfl
  · have c : cmpN r x = 1 := by unfold cmpN; rw [if_neg (by omega), if_pos h]
    have a1 : decide (2 * x < 2 * r) = true := by rw [decide_eq_true_iff]; omega
    rw [a1, c]; rfl

theorem up80 {Q : Nat} (h : Q < BB ^ 80) (n : Nat) (hn : 80 ≤ n) : Q < BB ^ n := Nat.lt_of_lt_of_le h (Nat.pow_le_pow_right (by decide) hn)

theorem log2_BB (Q k : Nat) (h0 : Q ≠ 0) (h : Q < BB ^ k) : Q.log2 < 32 * k := (Nat.log2_lt h0).2 (by rw [← BB_two]; exact h)

theorem two_lt (f k : Nat) (h : f < 32 * k) : 2 ^ f < BB ^ k := by rw [BB_two]; exact Nat.pow_lt_pow_right (a := 2) (by decide) h
theorem one_lt_BB (k : Nat) (h : 0 < k) : 1 < BB ^ k := two_lt 0 k (by omega)

theorem bitsM_pow (Q : Nat) : Q < 2 ^ bitsM Q := by
  unfold bitsM
  split
  · subst_vars; simp
  · exact Nat.lt_log2_self

set_option maxRecDepth 100000 in
set_option maxHeartbeats 4000000 in
theorem rounded_any (sg : Bool) (v : Value) (Q : Nat) (e : Int) (more : Bool) (hQ : Q < BB ^ 80) (he1 : -2500 ≤ e) (he2 : e ≤ 2500) (w : World) (h : Num w v Q) :
    Calls Tryd.prog 74 #[.int .u64 (sgn sg : Nat), v, .int .i64 e, .bool more] w fun e' w' => e' = .returned (.int .u64 (Ieee.double.word sg (if Q = 0 then 0 else rungR Q more e) : Nat)) ∧ Below w.heap.size w w' := by
  have hnum := h
  obtain ⟨l, ⟨ao, cap, rfl, h1, h2, h3, h4⟩, hno, hva⟩ := h
  by_cases h0 : l.length = 0
  · have hz : Q = 0 := by rw [← hva]; exact (norm_zero l hno).1 h0
    have hw : Ieee.double.word sg (if Q = 0 then 0 else rungR Q more e) = sgn sg := by
      rw [if_pos hz, word_eq]; cases sg <;> rfl
    rw [hw, h0]
    clear hnum h4 hno hva h0 h1 h3 hz hw
    go_enter Tryd.func74, Tryd.ntmps74
    go_wp2_with fail
    go_ret
    exact ⟨rfl, Below.refl _ _⟩
  · have hQ0 : Q ≠ 0 := fun hz => h0 ((norm_zero l hno).2 (by rw [hva]; exact hz))
    rw [if_neg hQ0]
    obtain ⟨WW, hWW⟩ : ∃ W, W = Ieee.double.word sg (rungR Q more e) := ⟨_, rfl⟩
    rw [← hWW]
    have HW := Lib.hid hWW
    obtain ⟨p, hp⟩ : ∃ a, l.length = a := ⟨_, rfl⟩
    rw [hp] at hnum h0 ⊢
    have hp0 : ((p : Int) == 0) = false := by simp; omega
    have hbits := bits_any _ Q (up80 hQ 400 (by decide)) w hnum
    obtain ⟨B, hB⟩ : ∃ B, bitsN Q = B := ⟨_, rfl⟩
    rw [hB] at hbits
    have hBm : bitsM Q = B := hB
    have hB2 : B ≤ 32 * 80 := by
      rw [← hBm]
      unfold bitsM
      rw [if_neg hQ0]
      have := log2_BB Q 80 hQ0 hQ
      omega
    obtain ⟨F, hF⟩ : ∃ F, offR Q e = F := ⟨_, rfl⟩
    have hmax : max ((B : Int) - 53) (-1074 - e) = F := by rw [← hF, ← hBm]; rfl
    have hF1 : (B : Int) - 53 ≤ F := by omega
    have hF2 : -1074 - e ≤ F := by omega
    have hF3 : F ≤ 2600 := by omega
    have hF4 : -60 ≤ F := by
      have hb1 : 1 ≤ B := by rw [← hBm]; unfold bitsM; rw [if_neg hQ0]; omega
      omega
    obtain ⟨G, hG⟩ : ∃ G, e + F + 1075 = G := ⟨_, rfl⟩
    have hG1 : 1 ≤ G := by omega
    have HG : Hid (e + offR Q e + 1075 = G) := Lib.hid (by rw [hF]; exact hG)
    have HNUM := Lib.hid hnum
    have hlt : Q < 2 ^ B := by rw [← hBm]; exact bitsM_pow Q
    have HLT := Lib.hid hlt
    have HQ9 := Lib.hid hQ
    have HF := Lib.hid hF
    have HMAX := Lib.hid hmax
    have HGG := Lib.hid hG
    clear hWW hB hp h4 hno hva h1 h3 h0 hnum hlt hQ hF hmax hG hBm
    go_enter Tryd.func74, Tryd.ntmps74
    go_upto_region 3 with fail
    go_cut [9] from 19 to 24 (fun s9 wy => s9 = .int .i64 F ∧ wy = w)
    case first =>
      rcases Int.lt_or_le (-1074 - e) ((B : Int) - 53) with hc | hc
      · have hFB : (B : Int) - 53 = F := by have := HMAX.out; omega
        go_wp2_with (go_at_call 85; refine hbits.mono ?_; rintro e' w1 ⟨rfl, rfl⟩)
        all_goals go_meet
        all_goals (case rel => first | exact ⟨rfl, rfl⟩ | exact ⟨congrArg (Value.int .i64) (by omega), rfl⟩)
      · have hFB : -1074 - e = F := by have := HMAX.out; omega
        go_wp2_with (go_at_call 85; refine hbits.mono ?_; rintro e' w1 ⟨rfl, rfl⟩)
        all_goals go_meet
        all_goals (case rel => first | exact ⟨rfl, rfl⟩ | exact ⟨congrArg (Value.int .i64) (by omega), rfl⟩)
    case rest =>
      obtain ⟨rfl, rfl⟩ := hcut
      clear hbits
      go_upto_if 26 with fail
      go_cut [10, 11, 12, 13, 26] from 26 to 61 (fun s10 s11 s12 s13 s26 wy => ∃ q : Nat, s10 = .int .u64 q ∧ Hid (keptR Q more e = q) ∧ q ≤ 9007199254740992 ∧ Below wc.heap.size wc wy)
      case first =>
        clear HW HGG HG hG1
        by_cases hF0 : F ≤ 0
        · obtain ⟨f, hf⟩ : ∃ f : Nat, -F = (f : Int) := ⟨(-F).toNat, by omega⟩
          obtain ⟨q, hq⟩ : ∃ q, q = Q * 2 ^ f := ⟨_, rfl⟩
          have HQ : Hid (keptR Q more e = q) := Lib.hid (by
            unfold keptR
            rw [HF.out, if_pos hF0, hq, show (-F).toNat = f by omega])
          have hqB : q < 9007199254740992 := by
            rw [hq]
            have h1 : Q * 2 ^ f < 2 ^ B * 2 ^ f := Nat.mul_lt_mul_of_pos_right HLT.out (Nat.two_pow_pos f)
            rw [← pow_add'] at h1
            exact Nat.lt_of_lt_of_le h1 (Nat.pow_le_pow_right (n := 2) (by decide) (show B + f ≤ 53 by omega))
          have hS := shift_any _ Q f (by omega) (up80 HQ9.out 300 (by decide)) wc HNUM.out
          rw [← hq] at hS
          clear hq HLT HQ9 HNUM HF HMAX
          go_wp2_with fail
          refine hS.mono ?_
          rintro e' w2 ⟨v2, rfl, n2, bz⟩
          have hsm := small_any v2 q (by omega) w2 n2
          go_wp2_with fail
          refine hsm.mono ?_
          rintro e' w3 ⟨rfl, rfl⟩
          clear hsm n2 hS
          go_wp2_with fail
          go_meet
          case rel => exact ⟨q, rfl, HQ, by omega, bz⟩
        · obtain ⟨f, rfl⟩ : ∃ f : Nat, F = (f : Int) := ⟨F.toNat, by omega⟩
          obtain ⟨q0, hq0⟩ : ∃ q, q = Q / 2 ^ f := ⟨_, rfl⟩
          obtain ⟨f1, hf1⟩ : ∃ g : Nat, (f : Int) - 1 = (g : Int) := ⟨f - 1, by omega⟩
          have hf2 : f = f1 + 1 := by omega
          obtain ⟨C, hC⟩ : ∃ C, C = cmpN (Q % 2 ^ f) (2 ^ (f - 1)) := ⟨_, rfl⟩
          have hF0' : decide ((f : Int) ≤ 0) = false := by simp; omega
          have hq0B : q0 < 9007199254740992 := by
            rw [hq0, show 9007199254740992 = 2 ^ 53 by rfl, Nat.div_lt_iff_lt_mul (Nat.two_pow_pos f), ← pow_add']
            exact Nat.lt_of_lt_of_le HLT.out (Nat.pow_le_pow_right (by decide) (by omega))
          have hkept : keptR Q more e = q0 + (if C = 1 then 1 else if C = 0 then (more || q0 % 2 == 1).toNat else 0) := by
            unfold keptR
            rw [HF.out, if_neg hF0, show ((f : Int)).toNat = f from rfl, keep_eq Q more f (by omega), ← hC, ← hq0]
          have HKP := Lib.hid hkept
          have hQB : Q < BB ^ 300 := up80 HQ9.out 300 (by decide)
          have hLow := low_any _ Q f (by omega) hQB wc HNUM.out
          rw [← hq0] at hLow
          have hrB : Q % 2 ^ f < BB ^ 400 := Nat.lt_of_le_of_lt (Nat.mod_le _ _) (up80 HQ9.out 400 (by decide))
          have h1B : 2 ^ f1 < BB ^ 400 := two_lt f1 400 (by omega)
          have hCf : C = cmpN (Q % 2 ^ f) (2 ^ f1) := by rw [hC, show f - 1 = f1 by omega]
          have HC := Lib.hid hCf
          have hC3 : C = 1 ∨ C = 0 ∨ C = -1 := by
            rw [hC]; unfold cmpN; split
            · exact .inr (.inr rfl)
            · split
              · exact .inl rfl
              · exact .inr (.inl rfl)
          have HC3 := Lib.hid hC3
          obtain ⟨r0, hr0⟩ : ∃ r, r = Q % 2 ^ f := ⟨_, rfl⟩
          rw [← hr0] at hLow hrB
          have HR0 := Lib.hid hr0
          have HRB := Lib.hid hrB
          have H1B := Lib.hid h1B
          clear hq0 hC hkept hCf hf2 hr0 hrB h1B hQB hC3 HLT HQ9 HNUM HF HMAX hF0
          go_wp2_with fail
          refine hLow.mono ?_
          rintro e' w2 ⟨vr, vw, rfl, nr, nw, bz⟩
          have hsm := small_any vw q0 (by omega) w2 nw
          go_wp2_with fail
          refine hsm.mono ?_
          rintro e' w3 ⟨rfl, rfl⟩
          clear hsm hLow
          have hof := of_any 1 (by omega) w3
          go_wp2_with fail
          refine hof.mono ?_
          rintro e' w4 ⟨v4, rfl, n4, b4⟩
          have hsh := shift_any v4 1 f1 (by omega) (one_lt_BB 300 (by decide)) w4 n4
          rw [Nat.one_mul] at hsh
          go_wp2_with fail
          refine hsh.mono ?_
          rintro e' w5 ⟨v5, rfl, n5, b5⟩
          have hb34 := b4.trans (b5.mono b4.size)
          have hcm := compare_any vr v5 r0 (2 ^ f1) HRB.out H1B.out w5 (nr.kept hb34) n5
          have hcc : cmpN r0 (2 ^ f1) = C := by rw [HC.out, HR0.out]
          rw [hcc] at hcm
          clear hcc
          go_wp2_with fail
          refine hcm.mono ?_
          rintro e' w6 ⟨rfl, nd, rfl⟩
          replace bz := below_drewN (bz.trans (hb34.mono bz.size)) nd
          clear hcm hsh hof b4 b5 hb34 n4 n5 nr nw
          obtain ⟨od, hod⟩ : ∃ od, q0 % 2 = od := ⟨_, rfl⟩
          have eod : (q0 : Int) % 2 = (od : Int) := by omega
          have etm : (q0 : Int).tmod 2 = (od : Int) := by rw [← hod]; exact Int.ofNat_tmod q0 2
          have hod2 : od < 2 := by omega
          have HOD := Lib.hid hod
          clear hod
          rcases HC3.out with rfl | rfl | rfl
          · have HQ : Hid (keptR Q more e = q0 + 1) := Lib.hid (by rw [HKP.out]; rfl)
            go_wp2_with fail
            go_meet
            case rel => exact ⟨q0 + 1, rfl, HQ, by omega, bz⟩
          · cases more
            · by_cases h1 : od = 1
              · have HQ : Hid (keptR Q false e = q0 + 1) := Lib.hid (by rw [HKP.out, HOD.out, h1]; rfl)
                have hob : ((od : Int) == 1) = true := by simp [h1]
                clear h1
                go_wp2_with fail
                go_meet
                case rel => exact ⟨q0 + 1, rfl, HQ, by omega, bz⟩
              · have h2 : od = 0 := by omega
                have HQ : Hid (keptR Q false e = q0) := Lib.hid (by rw [HKP.out, HOD.out, h2]; rfl)
                have hob : ((od : Int) == 1) = false := by simp [h2]
                clear h1 h2
                go_wp2_with fail
                go_meet
                case rel => exact ⟨q0, rfl, HQ, by omega, bz⟩
            · have HQ : Hid (keptR Q true e = q0 + 1) := Lib.hid (by rw [HKP.out]; rfl)
              go_wp2_with fail
              go_meet
              case rel => exact ⟨q0 + 1, rfl, HQ, by omega, bz⟩
          · have HQ : Hid (keptR Q more e = q0) := Lib.hid (by rw [HKP.out]; rfl)
            go_wp2_with fail
            go_meet
            case rel => exact ⟨q0, rfl, HQ, by omega, bz⟩
      case rest =>
        obtain ⟨q, rfl, HQ, hqB, bz⟩ := hcut
        have hG := HGG.out
        clear HMAX HF HLT HQ9 HNUM HGG
        by_cases c1 : q < 4503599627370496
        · have hw : WW = Ieee.double.word sg q := by
            rw [HW.out]; unfold rungR
            rw [HQ.out, if_pos c1]
          have eo := or_sgn sg q (by omega)
          rw [← hw] at eo
          have c1' : (q : Int) < 4503599627370496 := by omega
          clear hw hG
          go_wp2_with fail
          go_ret
          exact ⟨rfl, bz⟩
        · have c1' : decide ((q : Int) < 4503599627370496) = false := by simp; omega
          by_cases c2 : 2047 ≤ G
          · have hw : WW = Ieee.double.word sg INF := by
              rw [HW.out]; unfold rungR
              rw [HQ.out, if_neg c1, if_pos (by have := HG.out; omega)]
            have eo := or_sgn sg INF (by decide)
            rw [← hw] at eo
            have eo2 : bits .or .u64 (sgn sg : Nat) 9218868437227405312 = (WW : Int) := eo
            have c2' : G ≥ 2047 := by omega
            clear hw eo
            go_wp2_with fail
            go_ret
            exact ⟨rfl, bz⟩
          · have c2' : decide (G ≥ 2047) = false := by simp; omega
            obtain ⟨gn, hgn⟩ : ∃ gn : Nat, G = (gn : Int) := ⟨G.toNat, by omega⟩
            subst hgn
            obtain ⟨O, hO⟩ : ∃ O, O = gn * 4503599627370496 + (q - 4503599627370496) := ⟨_, rfl⟩
            have hOB : O < 9223372036854775808 * 2 := by omega
            obtain ⟨O2, hO2⟩ : ∃ O2, O2 = min O INF := ⟨_, rfl⟩
            have hI : INF = 9218868437227405312 := rfl
            have hw : WW = Ieee.double.word sg O2 := by
              rw [HW.out]; unfold rungR
              rw [HQ.out, if_neg c1, if_neg (by have := HG.out; omega), hO2, hO]
              have eg : (e + offR Q e + 1075).toNat = gn := by have := HG.out; omega
              rw [eg]
            have eo := or_sgn sg O2 (by omega)
            rw [← hw] at eo
            have es : (gn : Int) * 4503599627370496 + ((q : Int) - 4503599627370496) = (O : Int) := by omega
            have hq2 : (4503599627370496 : Int) ≤ (q : Int) := by omega
            have hOI : (O2 : Int) = if (9218868437227405312 : Int) < O then 9218868437227405312 else O := by split <;> omega
            have HOI := Lib.hid hOI
            clear hw hO hO2 hOI
            by_cases c3 : (9218868437227405312 : Int) < O
            · have h4 : (O2 : Int) = 9218868437227405312 := by have := HOI.out; rw [if_pos c3] at this; exact this
              rw [h4] at eo
              clear h4
              have hmn : min (O : Int) 9218868437227405312 = 9218868437227405312 := by omega
              go_wp2_with fail
              go_ret
              exact ⟨rfl, bz⟩
            · have h4 : (O2 : Int) = O := by have := HOI.out; rw [if_neg c3] at this; exact this
              have hmn : min (O : Int) 9218868437227405312 = O := by omega
              rw [h4] at eo
              clear h4
              have c3' : (O : Int) ≤ 9218868437227405312 := by omega
              clear c3
              go_wp2_with fail
              all_goals go_ret
              all_goals exact ⟨rfl, bz⟩
end Go.Proofs.YtfkdaimhdjaefaaDoor.Flt

/- The document's answer: signs, parts, isNaN, product, float. -/
namespace Go.Proofs.YtfkdaimhdjaefaaDoor.Flt
open Go.RowKit

theorem rung_bits (a : Nat) (h : a < 18446744073709551616) : bits .andNot .u64 (a : Int) 9223372036854775808 = (rungOf a : Int) := by
  have h := u64_andNot_nat a 9223372036854775808 h (by omega)
  rw [show ((9223372036854775808 : Nat) : Int) = 9223372036854775808 from rfl] at h
  rw [h]
  have e : (18446744073709551615 - 9223372036854775808 : Nat) = 2 ^ 63 - 1 := by decide
  rw [e, Nat.and_two_pow_sub_one_eq_mod]
  rfl

theorem and_pow (a : Nat) : a &&& 2 ^ 63 = sgn (negOf a) := by
  have e : sgn (negOf a) = (if negOf a then 2 ^ 63 else 0) := by cases negOf a <;> rfl
  rw [e]
  apply Nat.eq_of_testBit_eq
  intro i
  have hb : negOf a = a.testBit 63 := by
    unfold negOf
    rw [Nat.testBit_eq_decide_div_mod_eq]
    rcases Nat.mod_two_eq_zero_or_one (a / 2 ^ 63) with h | h <;> rw [h] <;> rfl
  rw [Nat.testBit_and, Nat.testBit_two_pow]
  by_cases hi : 63 = i
  · subst hi
    rw [hb]
    cases a.testBit 63
    · rw [if_neg (by decide), Nat.zero_testBit]; rfl
    · rw [if_pos rfl, Nat.testBit_two_pow]; rfl
  · rw [decide_eq_false hi, Bool.and_false]
    cases negOf a
    · rw [if_neg (by decide), Nat.zero_testBit]
    · rw [if_pos rfl, Nat.testBit_two_pow, decide_eq_false hi]

theorem sgn_bits (a : Nat) (h : a < 18446744073709551616) : bits .and .u64 (a : Int) 9223372036854775808 = (sgn (negOf a) : Int) := by
  have h1 := u64_and_nat a 9223372036854775808 h (by omega)
  rw [show ((9223372036854775808 : Nat) : Int) = 9223372036854775808 from rfl] at h1
  rw [h1, show 9223372036854775808 = 2 ^ 63 by rfl, and_pow a]

theorem negOf_bit (a : Nat) : negOf a = a.testBit 63 := by
  unfold negOf
  rw [Nat.testBit_eq_decide_div_mod_eq]
  rcases Nat.mod_two_eq_zero_or_one (a / 2 ^ 63) with h | h <;> rw [h] <;> rfl

theorem xor_bits (a b : Nat) (ha : a < 18446744073709551616) (hb : b < 18446744073709551616) : ∃ X : Nat, bits .xor .u64 (a : Int) (b : Int) = (X : Int) ∧ bits .and .u64 (X : Int) 9223372036854775808 = (sgn (negOf a ^^ negOf b) : Int) := by
  refine ⟨a ^^^ b, u64_xor_nat a b ha hb, ?_⟩
  rw [sgn_bits (a ^^^ b) (Nat.xor_lt_two_pow (n := 64) ha hb), negOf_bit, negOf_bit, negOf_bit, Nat.testBit_xor]

theorem zero_bits (a b : Nat) (ha : a < 18446744073709551616) (hb : b < 18446744073709551616) (h1 : rungOf a = 0) (h2 : rungOf b = 0) : bits .and .u64 (a : Int) (b : Int) = ((Ieee.double.word (negOf a && negOf b) 0 : Nat) : Int) := by
  rw [u64_and_nat a b ha hb]
  have e1 := word_of a ha
  have e2 := word_of b hb
  rw [h1, word_eq] at e1
  rw [h2, word_eq] at e2
  rw [word_eq]
  rw [← e1, ← e2]
  cases hA : negOf a <;> cases hB : negOf b <;> simp [negOf]

theorem parts_any (r : Nat) (h : r < INF) (w : World) :
    Calls Tryd.prog 71 #[.int .u64 r] w fun e w' => e = .returned (.tuple #[.int .u64 (magOf r : Nat), .int .i64 ((expOf r : Int) - 1074)]) ∧ w' = w := by
  have hI : INF = 9218868437227405312 := rfl
  obtain ⟨t, ht⟩ : ∃ t, t = r / 4503599627370496 := ⟨_, rfl⟩
  obtain ⟨m, hm⟩ : ∃ m, m = r % 4503599627370496 := ⟨_, rfl⟩
  have e1 : (r : Int) / 4503599627370496 = (t : Int) := by omega
  have e2 : bits .and .u64 (r : Int) 4503599627370495 = (m : Int) := by
    have h1 := u64_and_nat r 4503599627370495 (by omega) (by omega)
    rw [show ((4503599627370495 : Nat) : Int) = 4503599627370495 from rfl] at h1
    rw [h1, show 4503599627370495 = 2 ^ 52 - 1 by rfl, Nat.and_two_pow_sub_one_eq_mod, hm]
  have e3 : bits .or .u64 (m : Int) 4503599627370496 = ((m + 4503599627370496 : Nat) : Int) := by
    have h1 := u64_or_nat m 4503599627370496 (by omega) (by omega)
    rw [show ((4503599627370496 : Nat) : Int) = 4503599627370496 from rfl] at h1
    have h2 := Nat.shiftLeft_add_eq_or_of_lt (i := 52) (show m < 2 ^ 52 by omega) 1
    rw [Nat.shiftLeft_eq, Nat.one_mul] at h2
    rw [h1, Nat.or_comm, show 4503599627370496 = 2 ^ 52 by rfl, ← h2, Nat.add_comm]
  have ht2 : t < 2047 := by omega
  by_cases c : t = 0
  · have f1 : magOf r = m := by unfold magOf; rw [if_pos (by omega)]; omega
    have f2 : expOf r = 0 := by unfold expOf; rw [if_pos (by omega)]
    rw [f1, f2]
    have c1 : ((t : Int) == 0) = true := by simp [c]
    clear c f1 f2 ht hm
    go_enter Tryd.func71, Tryd.ntmps71
    go_wp2_with fail
    go_ret2
    exact ⟨rfl, rfl⟩
  · have f1 : magOf r = m + 4503599627370496 := by unfold magOf; rw [if_neg (by omega)]; omega
    have f2 : (expOf r : Int) - 1074 = (t : Int) - 1075 := by unfold expOf; rw [if_neg (by omega)]; omega
    rw [f1, f2]
    have c1 : ((t : Int) == 0) = false := by simp; omega
    clear c f1 f2 ht hm
    go_enter Tryd.func71, Tryd.ntmps71
    go_wp2_with fail
    go_ret2
    exact ⟨rfl, rfl⟩

theorem isNaN23 (a : Nat) (h : a < 18446744073709551616) (w : World) :
    Calls Tryd.prog 39 #[.int .u64 a] w fun e w' => e = .returned (.bool (decide (INF < rungOf a))) ∧ w' = w := by
  have hA := rung_bits a h
  have hd : decide ((9218868437227405312 : Int) < (rungOf a : Int)) = decide (INF < rungOf a) := decide_eq_decide.2 (by have : INF = 9218868437227405312 := rfl; omega)
  go_enter Tryd.func39, Tryd.ntmps39
  go_wp2
  go_ret
  exact ⟨rfl, rfl⟩

theorem times_num (v : Value) (N m : Nat) (hN : N < BB ^ 400) (hm : m < BB) (w : World) (h : Num w v N) :
    Calls Tryd.prog 79 #[v, .int .u32 m] w fun e w' => ∃ v', e = .returned v' ∧ Num w' v' (m * N) ∧ Below w.heap.size w w' := by
  obtain ⟨l, h1, h2, h3⟩ := h
  have hl := norm_len l h2 400 (by rw [h3]; exact hN)
  have := times_any v l m (by omega) hm w h1
  rw [h3] at this
  exact this

theorem upBB (x j k : Nat) (h : x < BB ^ j) (hjk : j ≤ k) : x < BB ^ k := Nat.lt_of_lt_of_le h (Nat.pow_le_pow_right (by decide) hjk)
theorem low_BB (x k : Nat) (h : x < 18446744073709551616) (hk : 2 ≤ k) : x < BB ^ k := Nat.lt_of_lt_of_le h (show BB ^ 2 ≤ BB ^ k from Nat.pow_le_pow_right (by decide) hk)

theorem product_any (m n : Nat) (hm : m < 18446744073709551616) (hn : n < 18446744073709551616) (w : World) :
    Calls Tryd.prog 78 #[.int .u64 m, .int .u64 n] w fun e w' => ∃ v, e = .returned v ∧ Num w' v (m * n) ∧ Below w.heap.size w w' := by
  obtain ⟨lo, hlo⟩ : ∃ t, t = n % 4294967296 := ⟨_, rfl⟩
  obtain ⟨hi, hhi⟩ : ∃ t, t = n / 4294967296 := ⟨_, rfl⟩
  have e1 : IntKind.u32.wrap (n : Int) = (lo : Int) := by rw [wrap_u32, hlo]; rfl
  have e2 : (n : Int) / 4294967296 = (hi : Int) := by omega
  have hi2 : hi < 4294967296 := by omega
  have e3 : IntKind.u32.wrap (hi : Int) = (hi : Int) := by rw [wrap_u32, show hi % BB = hi from Nat.mod_eq_of_lt hi2]
  have lo2 : lo < 4294967296 := by omega
  have es : lo * m + hi * m * 2 ^ 32 = m * n := by
    have : n = lo + hi * 2 ^ 32 := by omega
    rw [this, Nat.mul_add, Nat.mul_comm lo m, Nat.mul_right_comm hi m, Nat.mul_comm (hi * 2 ^ 32) m]
  have HS := Lib.hid es
  clear es hlo hhi
  have h1 := of_any m hm w
  go_enter Tryd.func78, Tryd.ntmps78
  go_wp2_with fail
  refine h1.mono ?_
  rintro e w1 ⟨v1, rfl, n1, b1⟩
  have h2 := times_num v1 m lo (low_BB m 400 hm (by decide)) lo2 w1 n1
  clear h1
  go_wp2_with fail
  refine h2.mono ?_
  rintro e w2 ⟨v2, rfl, n2, b2⟩
  replace b1 := b1.trans (b2.mono b1.size)
  have h3 := of_any m hm w2
  clear h2 b2 n1
  go_wp2_with fail
  refine h3.mono ?_
  rintro e w3 ⟨v3, rfl, n3, b3⟩
  replace b1 := b1.trans (b3.mono b1.size)
  replace n2 := n2.kept b3
  have h4 := times_num v3 m hi (low_BB m 400 hm (by decide)) hi2 w3 n3
  clear h3 b3
  go_wp2_with fail
  refine h4.mono ?_
  rintro e w4 ⟨v4, rfl, n4, b4⟩
  replace b1 := b1.trans (b4.mono b1.size)
  replace n2 := n2.kept b4
  have hm1 : hi * m < BB ^ 3 := by
    have : hi * m ≤ 4294967296 * m := Nat.mul_le_mul_right _ (by omega)
    have e : BB ^ 3 = 4294967296 * 18446744073709551616 := by decide
    omega
  have H5 := Lib.hid (shift_any v4 (hi * m) 32 (by omega) (upBB _ 3 300 hm1 (by decide)) w4 n4)
  have HM1 := Lib.hid hm1
  clear h4 b4 n3 hm1
  have h5 := H5.out
  go_wp2_with fail
  refine h5.mono ?_
  rintro e w5 ⟨v5, rfl, n5, b5⟩
  replace b1 := b1.trans (b5.mono b1.size)
  replace n2 := n2.kept b5
  have hl : lo * m < BB ^ 400 := by
    have : lo * m ≤ 4294967296 * m := Nat.mul_le_mul_right _ (by omega)
    have e : BB ^ 3 = 4294967296 * 18446744073709551616 := by decide
    exact upBB _ 3 400 (show lo * m < BB ^ 3 by omega) (by decide)
  have hr : hi * m * 2 ^ 32 < BB ^ 400 := by
    have h1 : hi * m * 2 ^ 32 < BB ^ 3 * 2 ^ 32 := Nat.mul_lt_mul_of_pos_right HM1.out (by decide)
    have h2 : BB ^ 3 * 2 ^ 32 = BB ^ 4 := by decide
    rw [h2] at h1
    exact upBB _ 4 400 h1 (by decide)
  have h6 := sum_any v2 v5 _ _ hl hr w5 n2 n5
  rw [HS.out] at h6
  clear h5 H5 b5 n4 hl hr HM1
  go_wp2_with fail
  refine h6.mono ?_
  rintro e w6 ⟨v6, rfl, n6, b6⟩
  go_wp2_with fail
  go_ret
  exact ⟨_, rfl, n6, b1.trans (b6.mono b1.size)⟩

theorem float_any (n : Int) (h1 : -9223372036854775808 ≤ n) (h2 : n ≤ 9223372036854775807) (w : World) :
    Calls Tryd.prog 43 #[.int .i64 n] w fun e w' => e = .returned (.int .u64 (ofInt n : Nat)) ∧ Below w.heap.size w w' := by
  rw [ofInt_ref]
  by_cases c : n < 0
  · obtain ⟨A, hA⟩ : ∃ A, n.natAbs = A := ⟨_, rfl⟩
    have hA2 : -(n + 1) + 1 = (A : Int) := by omega
    have hA3 : A < 18446744073709551616 := by omega
    rw [hA, show decide (n < 0) = true by simp [c]]
    have hof := of_any A hA3 w
    clear hA
    obtain ⟨WW, hW⟩ : ∃ W, W = Ieee.double.word true (if A = 0 then 0 else rungR A false 0) := ⟨_, rfl⟩
    rw [← hW]
    have HW := Lib.hid hW
    clear hW
    go_enter Tryd.func43, Tryd.ntmps43
    go_wp2_with fail
    refine hof.mono ?_
    rintro e w1 ⟨v, rfl, n1, b1⟩
    have hr := rounded_any true v A 0 false (low_BB A 80 hA3 (by decide)) (by omega) (by omega) w1 n1
    rw [← HW.out] at hr
    clear hof
    go_wp2_with fail
    refine hr.mono ?_
    rintro e w2 ⟨rfl, b2⟩
    go_wp2_with fail
    go_ret
    exact ⟨rfl, b1.trans (b2.mono b1.size)⟩
  · obtain ⟨A, rfl⟩ : ∃ A : Nat, n = (A : Int) := ⟨n.toNat, by omega⟩
    have hA3 : A < 18446744073709551616 := by omega
    have c' : decide ((A : Int) < 0) = false := by simp
    rw [c', show (A : Int).natAbs = A from rfl]
    have hof := of_any A hA3 w
    obtain ⟨WW, hW⟩ : ∃ W, W = Ieee.double.word false (if A = 0 then 0 else rungR A false 0) := ⟨_, rfl⟩
    rw [← hW]
    have HW := Lib.hid hW
    clear hW
    go_enter Tryd.func43, Tryd.ntmps43
    go_wp2_with fail
    refine hof.mono ?_
    rintro e w1 ⟨v, rfl, n1, b1⟩
    have hr := rounded_any false v A 0 false (low_BB A 80 hA3 (by decide)) (by omega) (by omega) w1 n1
    rw [← HW.out] at hr
    clear hof
    go_wp2_with fail
    refine hr.mono ?_
    rintro e w2 ⟨rfl, b2⟩
    go_wp2_with fail
    go_ret
    exact ⟨rfl, b1.trans (b2.mono b1.size)⟩
end Go.Proofs.YtfkdaimhdjaefaaDoor.Flt

/- The document's product and order of two floats. -/
namespace Go.Proofs.YtfkdaimhdjaefaaDoor.Flt
open Go.RowKit

/-- The conditions of a rung, in the walk's spelling. -/
theorem rung_tests (a : Nat) : (decide ((rungOf a : Int) > 9218868437227405312) = decide (INF < rungOf a)) ∧ (decide ((9218868437227405312 : Int) < (rungOf a : Int)) = decide (INF < rungOf a)) ∧ (((rungOf a : Int) == 9218868437227405312) = decide (rungOf a = INF)) ∧ (((rungOf a : Int) == 0) = decide (rungOf a = 0)) := by
  have hI : INF = 9218868437227405312 := rfl
  refine ⟨decide_eq_decide.2 (by omega), decide_eq_decide.2 (by omega), ?_, ?_⟩
  · rw [Bool.eq_iff_iff, beq_iff_eq, decide_eq_true_iff]; omega
  · rw [Bool.eq_iff_iff, beq_iff_eq, decide_eq_true_iff]; omega

set_option maxRecDepth 100000 in
set_option maxHeartbeats 4000000 in
theorem mul_any (a b : Nat) (ha : a < 18446744073709551616) (hb : b < 18446744073709551616) (w : World) :
    Calls Tryd.prog 40 #[.int .u64 a, .int .u64 b] w fun e w' => e = .returned (.int .u64 (fmul a b : Nat)) ∧ Below w.heap.size w w' := by
  have hI : INF = 9218868437227405312 := rfl
  have rA := rung_bits a ha
  have rB := rung_bits b hb
  obtain ⟨X, eX, eS⟩ := xor_bits a b ha hb
  obtain ⟨x, hx⟩ : ∃ x, rungOf a = x := ⟨_, rfl⟩
  obtain ⟨y, hy⟩ : ∃ x, rungOf b = x := ⟨_, rfl⟩
  obtain ⟨sg, hs⟩ : ∃ s, (negOf a ^^ negOf b) = s := ⟨_, rfl⟩
  obtain ⟨W, hW⟩ : ∃ W, fmul a b = W := ⟨_, rfl⟩
  rw [hW]
  rw [hx] at rA
  rw [hy] at rB
  rw [hs] at eS
  have HX := Lib.hid hx
  have HY := Lib.hid hy
  have HS := Lib.hid hs
  have HW := Lib.hid hW
  clear hx hy hs hW
  by_cases c1 : INF < x
  · have d1 : (x : Int) > 9218868437227405312 := by omega
    have hw : W = NAN := by rw [← HW.out, fmul_of_nan a b (.inl (by rw [HX.out]; exact c1))]
    subst hw
    clear HW
    go_enter Tryd.func40, Tryd.ntmps40
    go_wp2_with fail
    go_ret
    exact ⟨rfl, Below.refl _ _⟩
  · have d1 : decide ((x : Int) > 9218868437227405312) = false := by simp; omega
    by_cases c2 : INF < y
    · have d2 : (y : Int) > 9218868437227405312 := by omega
      have hw : W = NAN := by rw [← HW.out, fmul_of_nan a b (.inr (by rw [HY.out]; exact c2))]
      subst hw
      clear HW
      go_enter Tryd.func40, Tryd.ntmps40
      go_wp2_with fail
      go_ret
      exact ⟨rfl, Below.refl _ _⟩
    · have d2 : decide ((y : Int) > 9218868437227405312) = false := by simp; omega
      by_cases c3 : x = INF
      · have d3 : ((x : Int) == 9218868437227405312) = true := by simp; omega
        by_cases c4 : y = 0
        · have d4 : ((y : Int) == 0) = true := by simp; omega
          have hw : W = NAN := by
            rw [← HW.out]; unfold fmul
            rw [mul_inf_zero a b (by rw [HX.out]; exact c3) (by rw [HY.out]; exact c4)]; rfl
          subst hw
          clear HW c3 c4
          go_enter Tryd.func40, Tryd.ntmps40
          go_wp2_with fail
          go_ret
          exact ⟨rfl, Below.refl _ _⟩
        · have d4 : ((y : Int) == 0) = false := by simp; omega
          have d5 : ((x : Int) == 0) = false := by simp; omega
          have hw : W = Ieee.double.word sg INF := by
            rw [← HW.out]; unfold fmul
            rw [mul_inf a b (by rw [HX.out]; exact c3) (by rw [HY.out]; omega) (by rw [HY.out]; exact c4), HS.out]; rfl
          have eo := or_sgn sg INF (by decide)
          rw [← hw] at eo
          have eo2 : bits .or .u64 (sgn sg : Nat) 9218868437227405312 = (W : Int) := eo
          clear HW hw c3 c4 eo
          go_enter Tryd.func40, Tryd.ntmps40
          go_wp2_with fail
          go_ret
          exact ⟨rfl, Below.refl _ _⟩
      · have d3 : ((x : Int) == 9218868437227405312) = false := by simp; omega
        by_cases c4 : y = INF
        · have d4 : ((y : Int) == 9218868437227405312) = true := by simp; omega
          by_cases c5 : x = 0
          · have d5 : ((x : Int) == 0) = true := by simp; omega
            have hw : W = NAN := by
              rw [← HW.out, fmul_comm]; unfold fmul
              rw [mul_inf_zero b a (by rw [HY.out]; exact c4) (by rw [HX.out]; exact c5)]; rfl
            subst hw
            clear HW c3 c4 c5
            go_enter Tryd.func40, Tryd.ntmps40
            go_wp2_with fail
            go_ret
            exact ⟨rfl, Below.refl _ _⟩
          · have d5 : ((x : Int) == 0) = false := by simp; omega
            have hw : W = Ieee.double.word sg INF := by
              rw [← HW.out, fmul_comm]; unfold fmul
              rw [mul_inf b a (by rw [HY.out]; exact c4) (by rw [HX.out]; omega) (by rw [HX.out]; exact c5), Bool.xor_comm, HS.out]; rfl
            have eo := or_sgn sg INF (by decide)
            rw [← hw] at eo
            have eo2 : bits .or .u64 (sgn sg : Nat) 9218868437227405312 = (W : Int) := eo
            clear HW hw c3 c4 eo c5
            go_enter Tryd.func40, Tryd.ntmps40
            go_wp2_with fail
            go_ret
            exact ⟨rfl, Below.refl _ _⟩
        · have d4 : ((y : Int) == 9218868437227405312) = false := by simp; omega
          obtain ⟨e, he⟩ : ∃ e, e = (expOf (rungOf a) : Int) - 1074 := ⟨_, rfl⟩
          obtain ⟨f, hf⟩ : ∃ e, e = (expOf (rungOf b) : Int) - 1074 := ⟨_, rfl⟩
          have hxa : rungOf a < INF := by rw [HX.out]; omega
          have hyb : rungOf b < INF := by rw [HY.out]; omega
          have hw := mul_ref a b hxa hyb e f he hf
          obtain ⟨m, hm⟩ : ∃ m, magOf (rungOf a) = m := ⟨_, rfl⟩
          obtain ⟨n, hn⟩ : ∃ m, magOf (rungOf b) = m := ⟨_, rfl⟩
          have hm2 : m < 9007199254740992 := by rw [← hm]; exact (mag_exp _ hxa).1
          have hn2 : n < 9007199254740992 := by rw [← hn]; exact (mag_exp _ hyb).1
          have he2 := (mag_exp _ hxa).2
          have hf2 := (mag_exp _ hyb).2
          have p1 := parts_any x (by omega)
          have p2 := parts_any y (by omega)
          rw [← HX.out, hm, ← he, HX.out] at p1
          rw [← HY.out, hn, ← hf, HY.out] at p2
          rw [HW.out, hm, hn, HS.out] at hw
          have hef1 : -2500 ≤ e + f := by omega
          have hef2 : e + f ≤ 2500 := by omega
          have he3 : -1074 ≤ e ∧ e ≤ 1000 := by omega
          have hf3 : -1074 ≤ f ∧ f ≤ 1000 := by omega
          have hmn : m * n < BB ^ 80 := by
            have h1 : m * n ≤ 9007199254740992 * 9007199254740992 := Nat.mul_le_mul (by omega) (by omega)
            exact upBB _ 4 80 (Nat.lt_of_le_of_lt h1 (by decide)) (by decide)
          have HMN := Lib.hid hmn
          have HWW := Lib.hid hw
          obtain ⟨ef, hefE⟩ : ∃ ef, e + f = ef := ⟨_, rfl⟩
          have HEF := Lib.hid hefE
          have hpr := product_any m n (by omega) (by omega) w
          by_cases c5 : x = 0
          · have d5 : ((x : Int) == 0) = true := by simp; omega
            clear hmn hw HW he hf hm hn he2 hf2 hxa hyb c3 c4 c5
            go_enter Tryd.func40, Tryd.ntmps40
            go_wp2_with fail
            refine (p1 _).mono ?_
            rintro e' w1 ⟨rfl, rfl⟩
            go_wp2_with fail
            refine (p2 _).mono ?_
            rintro e' w2 ⟨rfl, rfl⟩
            go_wp2_with fail
            refine hpr.mono ?_
            rintro e' w3 ⟨v, rfl, n1, b1⟩
            have hr := rounded_any sg v (m * n) ef false HMN.out (by omega) (by omega) w3 n1
            have hq : Ieee.double.word sg (if m * n = 0 then 0 else rungR (m * n) false ef) = W := by rw [← HEF.out]; exact HWW.out.symm
            rw [hq] at hr
            clear hq p1 p2 hpr
            go_wp2_with fail
            refine hr.mono ?_
            rintro e' w4 ⟨rfl, b2⟩
            go_wp2_with fail
            go_ret
            exact ⟨rfl, b1.trans (b2.mono b1.size)⟩
          · have d5 : ((x : Int) == 0) = false := by simp; omega
            clear hmn hw HW he hf hm hn he2 hf2 hxa hyb c3 c4 c5
            go_enter Tryd.func40, Tryd.ntmps40
            go_wp2_with fail
            refine (p1 _).mono ?_
            rintro e' w1 ⟨rfl, rfl⟩
            go_wp2_with fail
            refine (p2 _).mono ?_
            rintro e' w2 ⟨rfl, rfl⟩
            go_wp2_with fail
            refine hpr.mono ?_
            rintro e' w3 ⟨v, rfl, n1, b1⟩
            have hr := rounded_any sg v (m * n) ef false HMN.out (by omega) (by omega) w3 n1
            have hq : Ieee.double.word sg (if m * n = 0 then 0 else rungR (m * n) false ef) = W := by rw [← HEF.out]; exact HWW.out.symm
            rw [hq] at hr
            clear hq p1 p2 hpr
            go_wp2_with fail
            refine hr.mono ?_
            rintro e' w4 ⟨rfl, b2⟩
            go_wp2_with fail
            go_ret
            exact ⟨rfl, b1.trans (b2.mono b1.size)⟩
end Go.Proofs.YtfkdaimhdjaefaaDoor.Flt
