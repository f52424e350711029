/- The document's own Nth. -/
import Derived.Test.YtcececjnndhalaaW6
namespace Go.Proofs.Ytcececjnndhalaa
open Go.RowKit

set_option maxRecDepth 100000 in
set_option maxHeartbeats 1000000 in
theorem rnth_arg1 (sb : Nat) (w : World) (p f n : Int) (h1 : f < 0) :
    Calls Try.prog 10 #[.pointer (some ⟨sb, 0, none⟩), .int .i64 p, .int .i64 f, .int .i64 n] w fun e w' => e = .returned (.tuple #[.int .i64 0, .int .i64 1]) ∧ w' = w := by
  go_enter Try.func10, Try.ntmps10
  go_wp2
  go_ret2
  exact ⟨rfl, rfl⟩

set_option maxRecDepth 100000 in
set_option maxHeartbeats 1000000 in
theorem rnth_arg2 (sb : Nat) (w : World) (p n : Int) (f : Nat) (h1 : n < 0) :
    Calls Try.prog 10 #[.pointer (some ⟨sb, 0, none⟩), .int .i64 p, .int .i64 f, .int .i64 n] w fun e w' => e = .returned (.tuple #[.int .i64 0, .int .i64 1]) ∧ w' = w := by
  have hf : decide ((f : Int) < 0) = false := by simp
  go_enter Try.func10, Try.ntmps10
  go_wp2
  go_ret2
  exact ⟨rfl, rfl⟩

set_option maxRecDepth 100000 in
set_option maxHeartbeats 1000000 in
theorem rnth_absent (sb lb cap : Nat) (l : List Int) (w : World) (h : Sl w sb lb cap l) (p : Int) (f n : Nat) (hc : cnt l p = 0) :
    Calls Try.prog 10 #[.pointer (some ⟨sb, 0, none⟩), .int .i64 p, .int .i64 f, .int .i64 n] w fun e w' => e = .returned (.tuple #[.int .i64 0, .int .i64 17]) ∧ ∃ n, w' = w.drewN n := by
  have hf : decide ((f : Int) < 0) = false := by simp
  have hn : decide ((n : Int) < 0) = false := by simp
  have h0 := h.c0
  have h1 := rin_any sb lb cap l w h p l.length (Nat.le_refl _)
  rw [cnt_take_all, hc] at h1
  go_enter Try.func10, Try.ntmps10
  go_wp2_with fail
  refine h1.mono ?_
  rintro e w1 ⟨rfl, n1, rfl⟩
  go_wp2
  go_ret2
  exact ⟨rfl, n1, rfl⟩

theorem nth_round {l : List Int} {p : Int} {f n T : Nat} (hp : 0 < l.length) (hT : IsNth l p f n T) (hc : 0 < cnt l p) :
    f + n / cnt l p * l.length ≤ T ∧ T < f + n / cnt l p * l.length + l.length ∧ ahead l p (f + n / cnt l p * l.length) + n % cnt l p = ahead l p T := by
  have h1 := ahead_round l p hp f (n / cnt l p)
  have h2 := Nat.div_add_mod n (cnt l p)
  have h3 := Nat.mod_lt n hc
  rw [Nat.mul_comm] at h2
  have hs := ahead_succ l p T hp
  rw [if_pos hT.2.1] at hs
  have h4 := hT.2.2
  refine ⟨?_, ?_, by omega⟩
  · rcases Nat.lt_or_ge T (f + n / cnt l p * l.length) with hx | hx
    · have := ahead_mono l p hp (T + 1) _ hx
      omega
    · exact hx
  · rcases Nat.lt_or_ge T (f + n / cnt l p * l.length + l.length) with hx | hx
    · exact hx
    · have h5 := ahead_mono l p hp _ T hx
      have h6 := ahead_round l p hp f (n / cnt l p + 1)
      rw [Nat.add_mul, Nat.add_mul, Nat.one_mul, Nat.one_mul, ← Nat.add_assoc] at h6
      omega

set_option maxRecDepth 100000 in
set_option maxHeartbeats 2000000 in
theorem rnth_any (sb lb cap : Nat) (l : List Int) (w : World) (h : Sl w sb lb cap l) (p : Int) (f n T : Nat) (hf : f < 9223372036854775808) (hn : n < 9223372036854775808) (hT : IsNth l p f n T) :
    Calls Try.prog 10 #[.pointer (some ⟨sb, 0, none⟩), .int .i64 p, .int .i64 f, .int .i64 n] w fun e w' => e = .returned (nthR T) ∧ ∃ n, w' = w.drewN n := by
  have hpos := h.pos
  have h64 := h.len
  have hc : 0 < cnt l p := by
    rcases Nat.eq_zero_or_pos (cnt l p) with hc | hc
    · exact absurd hT.2.1 ((cnt_zero_iff l p hpos).1 hc _)
    · exact hc
  have hf0 : decide ((f : Int) < 0) = false := by simp
  have hn0 : decide ((n : Int) < 0) = false := by simp
  have h0 := h.c0
  have h1 := rin_any sb lb cap l w h p l.length (Nat.le_refl _)
  rw [cnt_take_all] at h1
  have hc64 := cnt_le l p
  have ho := fun m t ht => rowner_any sb lb cap l (w.drewN m) (h.drewN m) t ht
  obtain ⟨hr1, hr2, hr3⟩ := nth_round hpos hT hc
  have hown : Hid (ownN l T = p) := hT.2.1
  have hfT := hT.1
  by_cases hA : 4611686018427387904 < f
  · have hR : Hid (nthR T = _) := nthR_far (T := T) (by omega)
    have hA' : (4611686018427387904 : Int) < f := by omega
    generalize cnt l p = c at *
    have t1 : ((c : Int) == 0) = false := by rw [beq_eq_false_iff_ne]; omega
    clear hT hr1 hr2 hr3
    go_enter Try.func10, Try.ntmps10
    go_wp2_with fail
    refine h1.mono ?_
    rintro e w1 ⟨rfl, n1, rfl⟩
    go_wp2_with fail
    obtain ⟨wr, hw⟩ : ∃ W, Hid (W = w.drewN n1) := ⟨_, rfl⟩
    rw [← hw.out]
    go_quiet (fail)
    go_wp2
    go_ret2
    exact ⟨by rw [hR.out]; rfl, n1 + nq, by rw [hw.out, World.drewN_drewN]⟩
  · have hAd : decide ((4611686018427387904 : Int) < f) = false := by simp; omega
    have hA' : (f : Int) ≤ 4611686018427387904 := by omega
    obtain ⟨v, hv⟩ : ∃ v, Hid (v = 4611686018427387904 - f) := ⟨_, rfl⟩
    have ev : (4611686018427387904 : Int) - f = (v : Int) := by rw [hv.out]; omega
    have hvf : v + f = 4611686018427387904 := by rw [hv.out]; omega
    have eR : (n : Int) / (cnt l p : Nat) = ((n / cnt l p : Nat) : Int) := by simp
    have eM : (n : Int) % (cnt l p : Nat) = ((n % cnt l p : Nat) : Int) := by simp
    have hRN : n / cnt l p ≤ n := Nat.div_le_self _ _
    have hMc : n % cnt l p < cnt l p := Nat.mod_lt _ hc
    clear hT
    generalize n / cnt l p = R at *
    generalize n % cnt l p = M at *
    generalize cnt l p = c at *
    have t1 : ((c : Int) == 0) = false := by rw [beq_eq_false_iff_ne]; omega
    have tz : ((l.length : Int) == 0) = false := by rw [beq_eq_false_iff_ne]; omega
    have eL : (v : Int) / (l.length : Int) = ((v / l.length : Nat) : Int) := by simp
    have hL1 : v / l.length * l.length ≤ v := Nat.div_mul_le_self _ _
    have hL2 : v < (v / l.length + 1) * l.length := by
      have := Nat.lt_mul_div_succ v hpos
      rw [Nat.mul_comm] at this; exact this
    have hLv : v / l.length ≤ v := Nat.div_le_self _ _
    generalize v / l.length = L at *
    have eP : (R : Int) * (l.length : Int) = ((R * l.length : Nat) : Int) := by simp
    by_cases hB : L < R
    · have hR : Hid (nthR T = _) := nthR_far (T := T) (by
        have := Nat.mul_le_mul_right l.length (show L + 1 ≤ R from hB)
        omega)
      have hB' : (L : Int) < (R : Int) := by omega
      clear hL1 hL2 hr1 hr2 hr3 hvf
      go_enter Try.func10, Try.ntmps10
      go_wp2_with fail
      refine h1.mono ?_
      rintro e w1 ⟨rfl, n1, rfl⟩
      go_wp2_with fail
      obtain ⟨wr, hw⟩ : ∃ W, Hid (W = w.drewN n1) := ⟨_, rfl⟩
      have hS : Sl wr sb lb cap l := by rw [hw.out]; exact h.drewN n1
      have hc0 := hS.c0
      rw [← hw.out]
      go_quiet (fail)
      go_wp2
      go_ret2
      exact ⟨by rw [hR.out]; rfl, n1 + nq, by rw [hw.out, World.drewN_drewN]⟩
    · have hBd : decide ((L : Int) < (R : Int)) = false := by simp; omega
      have hB' : (R : Int) ≤ (L : Int) := by omega
      have hP : R * l.length ≤ v := Nat.le_trans (Nat.mul_le_mul_right _ (by omega)) hL1
      generalize R * l.length = P at *
      clear hL1 hL2
      have hPf : (f : Int) + (P : Int) ≤ 4611686018427387904 := by omega
      have hT64 : T ≤ 4611686018427387968 := by omega
      have hr3 : Hid (ahead l p (f + P) + M = ahead l p T) := hr3
      go_enter Try.func10, Try.ntmps10
      go_wp2_with fail
      refine h1.mono ?_
      rintro e w1 ⟨rfl, n1, rfl⟩
      go_wp2_with fail
      obtain ⟨wr, hw⟩ : ∃ W, Hid (W = w.drewN n1) := ⟨_, rfl⟩
      have hS : Sl wr sb lb cap l := by rw [hw.out]; exact h.drewN n1
      have hc0 := hS.c0
      rw [← hw.out]
      go_quiet (fail)
      go_wp2_with fail
      go_quiet (fail)
      go_wp2_with fail
      rw [eM]
      go_loopw [11, 12] (fun a b wx => ∃ t m nd : Nat, t ≤ T ∧ f ≤ t ∧ m ≤ 64 ∧ a = .int .i64 t ∧ b = .int .i64 m ∧ Hid (ahead l p t + m = ahead l p T) ∧ wx = w.drewN nd) (fun a _ _ => T + 1 - (intOf a).toNat)
      case atStart => exact ⟨f + P, M, _, by omega, by omega, by omega, by go_num, rfl, hr3, by rw [hw.out, World.drewN_drewN]⟩
      case round =>
        obtain ⟨t, m, nd, htT, hft, hm64, rfl, rfl, hah, rfl⟩ := hrel
        have hot := ho nd t (by omega)
        have hs : Hid (ahead l p (t + 1) = ahead l p t + (if ownN l t = p then 1 else 0)) := ahead_succ l p t hpos
        by_cases he : ownN l t = p
        · by_cases hm : m = 0
          · have E : Hid (t = T) := (show IsNth l p 0 (ahead l p T) t from ⟨by omega, he, by have := hah.out; rw [ahead_zero]; omega⟩).unique hpos ⟨by omega, hown.out, by rw [ahead_zero]; omega⟩
            have t3 : ((m : Int) == 0) = true := by rw [beq_iff_eq, hm]; rfl
            generalize ownN l t = x at *
            have t2 : (x == p) = true := by rw [beq_iff_eq]; exact he
            clear he hs hm
            by_cases hC : 4611686018427387904 < t
            · have hR : Hid (nthR T = _) := nthR_far (T := T) (by omega)
              have hC' : (4611686018427387904 : Int) < (t : Int) := by omega
              go_wp2_with fail
              refine hot.mono ?_
              rintro e w3 ⟨rfl, m3, rfl⟩
              go_wp2
              go_ret2
              exact ⟨by rw [hR.out]; rfl, nd + m3, rfl⟩
            · have hR : Hid (nthR t = _) := nthR_near (T := t) (by omega)
              have hCd : decide ((4611686018427387904 : Int) < (t : Int)) = false := by simp; omega
              have hC' : (t : Int) ≤ 4611686018427387904 := by omega
              go_wp2_with fail
              refine hot.mono ?_
              rintro e w3 ⟨rfl, m3, rfl⟩
              go_wp2
              go_ret2
              exact ⟨by rw [← E.out, hR.out]; rfl, nd + m3, rfl⟩
          · have H : Hid (ahead l p (t + 1) + (m - 1) = ahead l p T) := by
              have h1 := hah.out
              show _ = _
              rw [hs.out, if_pos he]; omega
            have hlt : t + 1 ≤ T := by
              rcases Nat.lt_or_ge t T with hx | hx
              · exact hx
              · have e : t = T := by omega
                have h1 := hah.out
                rw [e] at h1; omega
            have t3 : ((m : Int) == 0) = false := by rw [beq_eq_false_iff_ne]; omega
            have hm1 : (1 : Int) ≤ (m : Int) := by omega
            generalize ownN l t = x at *
            have t2 : (x == p) = true := by rw [beq_iff_eq]; exact he
            clear he hs
            go_wp2_with fail
            refine hot.mono ?_
            rintro e w3 ⟨rfl, m3, rfl⟩
            go_wp2
            go_roundw
            case rel => exact ⟨t + 1, m - 1, nd + m3, by omega, by omega, by omega, by go_num, by go_num, H, rfl⟩
            case measure => simp [intOf]; omega
        · have H : Hid (ahead l p (t + 1) + m = ahead l p T) := by
            have h1 := hah.out
            show _ = _
            rw [hs.out, if_neg he]; omega
          have hlt : t + 1 ≤ T := by
            rcases Nat.lt_or_ge t T with hx | hx
            · exact hx
            · have e : t = T := by omega
              rw [e] at he; exact absurd hown.out he
          generalize ownN l t = x at *
          have t2 : (x == p) = false := by rw [beq_eq_false_iff_ne]; exact he
          clear he hs
          go_wp2_with fail
          refine hot.mono ?_
          rintro e w3 ⟨rfl, m3, rfl⟩
          go_wp2
          go_roundw
          case rel => exact ⟨t + 1, m, nd + m3, by omega, by omega, by omega, by go_num, rfl, H, rfl⟩
          case measure => simp [intOf]; omega
end Go.Proofs.Ytcececjnndhalaa
