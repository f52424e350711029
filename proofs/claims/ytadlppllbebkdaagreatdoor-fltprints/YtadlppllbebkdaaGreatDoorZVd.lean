/- The document's rounding. -/
import Derived.Test.YtadlppllbebkdaaGreatDoorZVc
import Derived.Test.YtadlppllbebkdaaGreatDoorZMb
import Derived.Deep.CutRange
import Derived.Deep.MidRow
namespace Go.Proofs.YtadlppllbebkdaaGreatDoor
open Go.RowKit

def sgn (s : Bool) : Nat := if s then 9223372036854775808 else 0

theorem or_sgn (s : Bool) (q : Nat) (h : q < 9223372036854775808) : bits .or .u64 (sgn s : Nat) (q : Int) = ((Ieee.double.word s q : Nat) : Int) := by
  have h1 := u64_or_nat (sgn s) q (by cases s <;> simp [sgn]) (by omega)
  rw [h1, word_eq]
  cases s
  · simp [sgn]
  · have h2 := Nat.shiftLeft_add_eq_or_of_lt (i := 63) (show q < 2 ^ 63 by omega) 1
    rw [Nat.shiftLeft_eq, Nat.one_mul] at h2
    have e : sgn true = 2 ^ 63 := rfl
    rw [e, ← h2]; rfl

theorem keep_eq (Q : Nat) (s : Bool) (f : Nat) (hf : 1 ≤ f) : keep Q s f = Q / 2 ^ f + (if cmpN (Q % 2 ^ f) (2 ^ (f - 1)) = 1 then 1 else if cmpN (Q % 2 ^ f) (2 ^ (f - 1)) = 0 then (s || Q / 2 ^ f % 2 == 1).toNat else 0) := by
  unfold keep
  obtain ⟨g, rfl⟩ : ∃ g, f = g + 1 := ⟨f - 1, by omega⟩
  have hp : 2 ^ (g + 1) = 2 * 2 ^ g := by rw [Nat.pow_succ, Nat.mul_comm]
  rw [show g + 1 - 1 = g by omega]
  generalize Q % 2 ^ (g + 1) = r
  generalize Q / 2 ^ (g + 1) = q
  rw [hp]
  generalize 2 ^ g = x
  rcases Nat.lt_trichotomy r x with h | h | h
  · have c : cmpN r x = -1 := by unfold cmpN; rw [if_pos h]
    have a1 : decide (2 * x < 2 * r) = false := by rw [decide_eq_false_iff_not]; omega
    have a2 : (2 * x == 2 * r) = false := by rw [beq_eq_false_iff_ne]; omega
    rw [a1, a2, c]; rfl
  · subst h
    have c : cmpN r r = 0 := by unfold cmpN; rw [if_neg (by omega), if_neg (by omega)]
    have a1 : decide (2 * r < 2 * r) = false := by rw [decide_eq_false_iff_not]; omega
    have a2 : (2 * r == 2 * r) = true := beq_self_eq_true _
    rw [a1, a2, c, Bool.false_or, Bool.true_and]; rfl
  · have c : cmpN r x = 1 := by unfold cmpN; rw [if_neg (by omega), if_pos h]
    have a1 : decide (2 * x < 2 * r) = true := by rw [decide_eq_true_iff]; omega
    rw [a1, c]; rfl

theorem up80 {Q : Nat} (h : Q < BB ^ 80) (n : Nat) (hn : 80 ≤ n) : Q < BB ^ n := Nat.lt_of_lt_of_le h (Nat.pow_le_pow_right (by decide) hn)

theorem log2_BB (Q k : Nat) (h0 : Q ≠ 0) (h : Q < BB ^ k) : Q.log2 < 32 * k := (Nat.log2_lt h0).2 (by rw [← BB_two]; exact h)

theorem two_lt (f k : Nat) (h : f < 32 * k) : 2 ^ f < BB ^ k := by rw [BB_two]; exact Nat.pow_lt_pow_right (a := 2) (by decide) h
theorem one_lt_BB (k : Nat) (h : 0 < k) : 1 < BB ^ k := two_lt 0 k (by omega)

theorem bitsM_pow (Q : Nat) : Q < 2 ^ bitsM Q := by
  unfold bitsM
  split
  · subst_vars; simp
  · exact Nat.lt_log2_self

set_option maxRecDepth 100000 in
set_option maxHeartbeats 4000000 in
theorem rounded_any (sg : Bool) (v : Value) (Q : Nat) (e : Int) (more : Bool) (hQ : Q < BB ^ 80) (he1 : -2500 ≤ e) (he2 : e ≤ 2500) (w : World) (h : Num w v Q) :
    Calls Tryz.prog 44 #[.int .u64 (sgn sg : Nat), v, .int .i64 e, .bool more] w fun e' w' => e' = .returned (.int .u64 (Ieee.double.word sg (if Q = 0 then 0 else rungR Q more e) : Nat)) ∧ Below w.heap.size w w' := by
  have hnum := h
  obtain ⟨l, ⟨ao, cap, rfl, h1, h2, h3, h4⟩, hno, hva⟩ := h
  by_cases h0 : l.length = 0
  · have hz : Q = 0 := by rw [← hva]; exact (norm_zero l hno).1 h0
    have hw : Ieee.double.word sg (if Q = 0 then 0 else rungR Q more e) = sgn sg := by
      rw [if_pos hz, word_eq]; cases sg <;> rfl
    rw [hw, h0]
    clear hnum h4 hno hva h0 h1 h3 hz hw
    go_enter Tryz.func44, Tryz.ntmps44
    go_wp2_with fail
    go_ret
    exact ⟨rfl, Below.refl _ _⟩
  · have hQ0 : Q ≠ 0 := fun hz => h0 ((norm_zero l hno).2 (by rw [hva]; exact hz))
    rw [if_neg hQ0]
    obtain ⟨WW, hWW⟩ : ∃ W, W = Ieee.double.word sg (rungR Q more e) := ⟨_, rfl⟩
    rw [← hWW]
    have HW := Lib.hid hWW
    obtain ⟨p, hp⟩ : ∃ a, l.length = a := ⟨_, rfl⟩
    rw [hp] at hnum h0 ⊢
    have hp0 : ((p : Int) == 0) = false := by simp; omega
    have hbits := bits_any _ Q (up80 hQ 400 (by decide)) w hnum
    obtain ⟨B, hB⟩ : ∃ B, bitsN Q = B := ⟨_, rfl⟩
    rw [hB] at hbits
    have hBm : bitsM Q = B := hB
    have hB2 : B ≤ 32 * 80 := by
      rw [← hBm]
      unfold bitsM
      rw [if_neg hQ0]
      have := log2_BB Q 80 hQ0 hQ
      omega
    obtain ⟨F, hF⟩ : ∃ F, offR Q e = F := ⟨_, rfl⟩
    have hmax : max ((B : Int) - 53) (-1074 - e) = F := by rw [← hF, ← hBm]; rfl
    have hF1 : (B : Int) - 53 ≤ F := by omega
    have hF2 : -1074 - e ≤ F := by omega
    have hF3 : F ≤ 2600 := by omega
    have hF4 : -60 ≤ F := by
      have hb1 : 1 ≤ B := by rw [← hBm]; unfold bitsM; rw [if_neg hQ0]; omega
      omega
    obtain ⟨G, hG⟩ : ∃ G, e + F + 1075 = G := ⟨_, rfl⟩
    have hG1 : 1 ≤ G := by omega
    have HG : Hid (e + offR Q e + 1075 = G) := Lib.hid (by rw [hF]; exact hG)
    have HNUM := Lib.hid hnum
    have hlt : Q < 2 ^ B := by rw [← hBm]; exact bitsM_pow Q
    have HLT := Lib.hid hlt
    have HQ9 := Lib.hid hQ
    have HF := Lib.hid hF
    have HMAX := Lib.hid hmax
    have HGG := Lib.hid hG
    clear hWW hB hp h4 hno hva h1 h3 h0 hnum hlt hQ hF hmax hG hBm
    go_enter Tryz.func44, Tryz.ntmps44
    go_upto_region 3 with fail
    go_cut [9] from 19 to 24 (fun s9 wy => s9 = .int .i64 F ∧ wy = w)
    case first =>
      rcases Int.lt_or_le (-1074 - e) ((B : Int) - 53) with hc | hc
      · have hFB : (B : Int) - 53 = F := by have := HMAX.out; omega
        go_wp2_with (go_at_call 64; refine hbits.mono ?_; rintro e' w1 ⟨rfl, rfl⟩)
        all_goals go_meet
        all_goals (case rel => first | exact ⟨rfl, rfl⟩ | exact ⟨congrArg (Value.int .i64) (by omega), rfl⟩)
      · have hFB : -1074 - e = F := by have := HMAX.out; omega
        go_wp2_with (go_at_call 64; refine hbits.mono ?_; rintro e' w1 ⟨rfl, rfl⟩)
        all_goals go_meet
        all_goals (case rel => first | exact ⟨rfl, rfl⟩ | exact ⟨congrArg (Value.int .i64) (by omega), rfl⟩)
    case rest =>
      obtain ⟨rfl, rfl⟩ := hcut
      clear hbits
      go_upto_if 26 with fail
      go_cut [10, 11, 12, 13, 26] from 26 to 61 (fun s10 s11 s12 s13 s26 wy => ∃ q : Nat, s10 = .int .u64 q ∧ Hid (keptR Q more e = q) ∧ q ≤ 9007199254740992 ∧ Below wc.heap.size wc wy)
      case first =>
        clear HW HGG HG hG1
        by_cases hF0 : F ≤ 0
        · obtain ⟨f, hf⟩ : ∃ f : Nat, -F = (f : Int) := ⟨(-F).toNat, by omega⟩
          obtain ⟨q, hq⟩ : ∃ q, q = Q * 2 ^ f := ⟨_, rfl⟩
          have HQ : Hid (keptR Q more e = q) := Lib.hid (by
            unfold keptR
            rw [HF.out, if_pos hF0, hq, show (-F).toNat = f by omega])
          have hqB : q < 9007199254740992 := by
            rw [hq]
            have h1 : Q * 2 ^ f < 2 ^ B * 2 ^ f := Nat.mul_lt_mul_of_pos_right HLT.out (Nat.two_pow_pos f)
            rw [← pow_add'] at h1
            exact Nat.lt_of_lt_of_le h1 (Nat.pow_le_pow_right (n := 2) (by decide) (show B + f ≤ 53 by omega))
          have hS := shift_any _ Q f (by omega) (up80 HQ9.out 300 (by decide)) wc HNUM.out
          rw [← hq] at hS
          clear hq HLT HQ9 HNUM HF HMAX
          go_wp2_with fail
          refine hS.mono ?_
          rintro e' w2 ⟨v2, rfl, n2, bz⟩
          have hsm := small_any v2 q (by omega) w2 n2
          go_wp2_with fail
          refine hsm.mono ?_
          rintro e' w3 ⟨rfl, rfl⟩
          clear hsm n2 hS
          go_wp2_with fail
          go_meet
          case rel => exact ⟨q, rfl, HQ, by omega, bz⟩
        · obtain ⟨f, rfl⟩ : ∃ f : Nat, F = (f : Int) := ⟨F.toNat, by omega⟩
          obtain ⟨q0, hq0⟩ : ∃ q, q = Q / 2 ^ f := ⟨_, rfl⟩
          obtain ⟨f1, hf1⟩ : ∃ g : Nat, (f : Int) - 1 = (g : Int) := ⟨f - 1, by omega⟩
          have hf2 : f = f1 + 1 := by omega
          obtain ⟨C, hC⟩ : ∃ C, C = cmpN (Q % 2 ^ f) (2 ^ (f - 1)) := ⟨_, rfl⟩
          have hF0' : decide ((f : Int) ≤ 0) = false := by simp; omega
          have hq0B : q0 < 9007199254740992 := by
            rw [hq0, show 9007199254740992 = 2 ^ 53 by rfl, Nat.div_lt_iff_lt_mul (Nat.two_pow_pos f), ← pow_add']
            exact Nat.lt_of_lt_of_le HLT.out (Nat.pow_le_pow_right (by decide) (by omega))
          have hkept : keptR Q more e = q0 + (if C = 1 then 1 else if C = 0 then (more || q0 % 2 == 1).toNat else 0) := by
            unfold keptR
            rw [HF.out, if_neg hF0, show ((f : Int)).toNat = f from rfl, keep_eq Q more f (by omega), ← hC, ← hq0]
          have HKP := Lib.hid hkept
          have hQB : Q < BB ^ 300 := up80 HQ9.out 300 (by decide)
          have hLow := low_any _ Q f (by omega) hQB wc HNUM.out
          rw [← hq0] at hLow
          have hrB : Q % 2 ^ f < BB ^ 400 := Nat.lt_of_le_of_lt (Nat.mod_le _ _) (up80 HQ9.out 400 (by decide))
          have h1B : 2 ^ f1 < BB ^ 400 := two_lt f1 400 (by omega)
          have hCf : C = cmpN (Q % 2 ^ f) (2 ^ f1) := by rw [hC, show f - 1 = f1 by omega]
          have HC := Lib.hid hCf
          have hC3 : C = 1 ∨ C = 0 ∨ C = -1 := by
            rw [hC]; unfold cmpN; split
            · exact .inr (.inr rfl)
            · split
              · exact .inl rfl
              · exact .inr (.inl rfl)
          have HC3 := Lib.hid hC3
          obtain ⟨r0, hr0⟩ : ∃ r, r = Q % 2 ^ f := ⟨_, rfl⟩
          rw [← hr0] at hLow hrB
          have HR0 := Lib.hid hr0
          have HRB := Lib.hid hrB
          have H1B := Lib.hid h1B
          clear hq0 hC hkept hCf hf2 hr0 hrB h1B hQB hC3 HLT HQ9 HNUM HF HMAX hF0
          go_wp2_with fail
          refine hLow.mono ?_
          rintro e' w2 ⟨vr, vw, rfl, nr, nw, bz⟩
          have hsm := small_any vw q0 (by omega) w2 nw
          go_wp2_with fail
          refine hsm.mono ?_
          rintro e' w3 ⟨rfl, rfl⟩
          clear hsm hLow
          have hof := of_any 1 (by omega) w3
          go_wp2_with fail
          refine hof.mono ?_
          rintro e' w4 ⟨v4, rfl, n4, b4⟩
          have hsh := shift_any v4 1 f1 (by omega) (one_lt_BB 300 (by decide)) w4 n4
          rw [Nat.one_mul] at hsh
          go_wp2_with fail
          refine hsh.mono ?_
          rintro e' w5 ⟨v5, rfl, n5, b5⟩
          have hb34 := b4.trans (b5.mono b4.size)
          have hcm := compare_any vr v5 r0 (2 ^ f1) HRB.out H1B.out w5 (nr.kept hb34) n5
          have hcc : cmpN r0 (2 ^ f1) = C := by rw [HC.out, HR0.out]
          rw [hcc] at hcm
          clear hcc
          go_wp2_with fail
          refine hcm.mono ?_
          rintro e' w6 ⟨rfl, nd, rfl⟩
          replace bz := below_drewN (bz.trans (hb34.mono bz.size)) nd
          clear hcm hsh hof b4 b5 hb34 n4 n5 nr nw
          obtain ⟨od, hod⟩ : ∃ od, q0 % 2 = od := ⟨_, rfl⟩
          have eod : (q0 : Int) % 2 = (od : Int) := by omega
          have etm : (q0 : Int).tmod 2 = (od : Int) := by rw [← hod]; exact Int.ofNat_tmod q0 2
          have hod2 : od < 2 := by omega
          have HOD := Lib.hid hod
          clear hod
          rcases HC3.out with rfl | rfl | rfl
          · have HQ : Hid (keptR Q more e = q0 + 1) := Lib.hid (by rw [HKP.out]; rfl)
            go_wp2_with fail
            go_meet
            case rel => exact ⟨q0 + 1, rfl, HQ, by omega, bz⟩
          · cases more
            · by_cases h1 : od = 1
              · have HQ : Hid (keptR Q false e = q0 + 1) := Lib.hid (by rw [HKP.out, HOD.out, h1]; rfl)
                have hob : ((od : Int) == 1) = true := by simp [h1]
                clear h1
                go_wp2_with fail
                go_meet
                case rel => exact ⟨q0 + 1, rfl, HQ, by omega, bz⟩
              · have h2 : od = 0 := by omega
                have HQ : Hid (keptR Q false e = q0) := Lib.hid (by rw [HKP.out, HOD.out, h2]; rfl)
                have hob : ((od : Int) == 1) = false := by simp [h2]
                clear h1 h2
                go_wp2_with fail
                go_meet
                case rel => exact ⟨q0, rfl, HQ, by omega, bz⟩
            · have HQ : Hid (keptR Q true e = q0 + 1) := Lib.hid (by rw [HKP.out]; rfl)
              go_wp2_with fail
              go_meet
              case rel => exact ⟨q0 + 1, rfl, HQ, by omega, bz⟩
          · have HQ : Hid (keptR Q more e = q0) := Lib.hid (by rw [HKP.out]; rfl)
            go_wp2_with fail
            go_meet
            case rel => exact ⟨q0, rfl, HQ, by omega, bz⟩
      case rest =>
        obtain ⟨q, rfl, HQ, hqB, bz⟩ := hcut
        have hG := HGG.out
        clear HMAX HF HLT HQ9 HNUM HGG
        by_cases c1 : q < 4503599627370496
        · have hw : WW = Ieee.double.word sg q := by
            rw [HW.out]; unfold rungR
            rw [HQ.out, if_pos c1]
          have eo := or_sgn sg q (by omega)
          rw [← hw] at eo
          have c1' : (q : Int) < 4503599627370496 := by omega
          clear hw hG
          go_wp2_with fail
          go_ret
          exact ⟨rfl, bz⟩
        · have c1' : decide ((q : Int) < 4503599627370496) = false := by simp; omega
          by_cases c2 : 2047 ≤ G
          · have hw : WW = Ieee.double.word sg INF := by
              rw [HW.out]; unfold rungR
              rw [HQ.out, if_neg c1, if_pos (by have := HG.out; omega)]
            have eo := or_sgn sg INF (by decide)
            rw [← hw] at eo
            have eo2 : bits .or .u64 (sgn sg : Nat) 9218868437227405312 = (WW : Int) := eo
            have c2' : G ≥ 2047 := by omega
            clear hw eo
            go_wp2_with fail
            go_ret
            exact ⟨rfl, bz⟩
          · have c2' : decide (G ≥ 2047) = false := by simp; omega
            obtain ⟨gn, hgn⟩ : ∃ gn : Nat, G = (gn : Int) := ⟨G.toNat, by omega⟩
            subst hgn
            obtain ⟨O, hO⟩ : ∃ O, O = gn * 4503599627370496 + (q - 4503599627370496) := ⟨_, rfl⟩
            have hOB : O < 9223372036854775808 * 2 := by omega
            obtain ⟨O2, hO2⟩ : ∃ O2, O2 = min O INF := ⟨_, rfl⟩
            have hI : INF = 9218868437227405312 := rfl
            have hw : WW = Ieee.double.word sg O2 := by
              rw [HW.out]; unfold rungR
              rw [HQ.out, if_neg c1, if_neg (by have := HG.out; omega), hO2, hO]
              have eg : (e + offR Q e + 1075).toNat = gn := by have := HG.out; omega
              rw [eg]
            have eo := or_sgn sg O2 (by omega)
            rw [← hw] at eo
            have es : (gn : Int) * 4503599627370496 + ((q : Int) - 4503599627370496) = (O : Int) := by omega
            have hq2 : (4503599627370496 : Int) ≤ (q : Int) := by omega
            have hOI : (O2 : Int) = if (9218868437227405312 : Int) < O then 9218868437227405312 else O := by split <;> omega
            have HOI := Lib.hid hOI
            clear hw hO hO2 hOI
            by_cases c3 : (9218868437227405312 : Int) < O
            · have h4 : (O2 : Int) = 9218868437227405312 := by have := HOI.out; rw [if_pos c3] at this; exact this
              rw [h4] at eo
              clear h4
              have hmn : min (O : Int) 9218868437227405312 = 9218868437227405312 := by omega
              go_wp2_with fail
              go_ret
              exact ⟨rfl, bz⟩
            · have h4 : (O2 : Int) = O := by have := HOI.out; rw [if_neg c3] at this; exact this
              have hmn : min (O : Int) 9218868437227405312 = O := by omega
              rw [h4] at eo
              clear h4
              have c3' : (O : Int) ≤ 9218868437227405312 := by omega
              clear c3
              go_wp2_with fail
              all_goals go_ret
              all_goals exact ⟨rfl, bz⟩
end Go.Proofs.YtadlppllbebkdaaGreatDoor
