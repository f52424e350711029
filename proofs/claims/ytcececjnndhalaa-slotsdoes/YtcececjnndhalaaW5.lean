/- Nth. -/
import Derived.Test.YtcececjnndhalaaW4
namespace Go.Proofs.Ytcececjnndhalaa
open Go.RowKit

/-- What Nth answers where the slot is the tick T. -/
def nthR (T : Nat) : Value := if 4611686018427387904 < T then .tuple #[.int .i64 0, .int .i64 2] else .tuple #[.int .i64 T, .int .i64 0]

theorem nthR_far {T : Nat} (h : 4611686018427387904 < T) : nthR T = .tuple #[.int .i64 0, .int .i64 2] := if_pos h
theorem nthR_near {T : Nat} (h : T ≤ 4611686018427387904) : nthR T = .tuple #[.int .i64 T, .int .i64 0] := if_neg (by omega)

set_option maxRecDepth 100000 in
set_option maxHeartbeats 1000000 in
theorem nth_arg1 (sb : Nat) (w : World) (p f n : Int) (h1 : f < 0) :
    Calls Try.prog 9 #[.pointer (some ⟨sb, 0, none⟩), .int .i64 p, .int .i64 f, .int .i64 n] w fun e w' => e = .returned (.tuple #[.int .i64 0, .int .i64 1]) ∧ w' = w := by
  go_enter Try.func9, Try.ntmps9
  go_wp2
  go_ret2
  exact ⟨rfl, rfl⟩

set_option maxRecDepth 100000 in
set_option maxHeartbeats 1000000 in
theorem nth_arg2 (sb : Nat) (w : World) (p n : Int) (f : Nat) (h1 : n < 0) :
    Calls Try.prog 9 #[.pointer (some ⟨sb, 0, none⟩), .int .i64 p, .int .i64 f, .int .i64 n] w fun e w' => e = .returned (.tuple #[.int .i64 0, .int .i64 1]) ∧ w' = w := by
  have hf : decide ((f : Int) < 0) = false := by simp
  go_enter Try.func9, Try.ntmps9
  go_wp2
  go_ret2
  exact ⟨rfl, rfl⟩

set_option maxRecDepth 100000 in
set_option maxHeartbeats 1000000 in
theorem nth_absent (sb lb cap : Nat) (l : List Int) (w : World) (h : Sl w sb lb cap l) (p : Int) (f n : Nat) (hc : cnt l p = 0) :
    Calls Try.prog 9 #[.pointer (some ⟨sb, 0, none⟩), .int .i64 p, .int .i64 f, .int .i64 n] w fun e w' => e = .returned (.tuple #[.int .i64 0, .int .i64 17]) ∧ w' = w := by
  have hf : decide ((f : Int) < 0) = false := by simp
  have hn : decide ((n : Int) < 0) = false := by simp
  have h0 := h.c0
  have h1 := entries_any lb l.length cap l p w (Nat.le_refl _) h.len h.ent
  rw [cnt_take_all, hc] at h1
  go_enter Try.func9, Try.ntmps9
  go_wp2_with fail
  refine h1.mono ?_
  rintro e w1 ⟨rfl, rfl⟩
  go_wp2
  go_ret2
  exact ⟨rfl, rfl⟩

set_option maxRecDepth 100000 in
set_option maxHeartbeats 2000000 in
theorem nth_any (sb lb cap : Nat) (l : List Int) (w : World) (h : Sl w sb lb cap l) (p : Int) (f n T : Nat) (hf : f < 9223372036854775808) (hn : n < 9223372036854775808) (hT : IsNth l p f n T) :
    Calls Try.prog 9 #[.pointer (some ⟨sb, 0, none⟩), .int .i64 p, .int .i64 f, .int .i64 n] w fun e w' => e = .returned (nthR T) ∧ ∃ n, w' = w.drewN n := by
  have hpos := h.pos
  have hfar := hT.far hpos
  have h64 := h.len
  have hc : 0 < cnt l p := by
    rcases Nat.eq_zero_or_pos (cnt l p) with hc | hc
    · exact absurd hT.2.1 ((cnt_zero_iff l p hpos).1 hc _)
    · exact hc
  have hf0 : decide ((f : Int) < 0) = false := by simp
  have hn0 : decide ((n : Int) < 0) = false := by simp
  have h0 := h.c0
  have h1 := entries_any lb l.length cap l p w (Nat.le_refl _) h.len h.ent
  rw [cnt_take_all] at h1
  have hc64 := cnt_le l p
  by_cases hA : (4611686018427387904 : Int) - f < n
  · have hR : Hid (nthR T = _) := nthR_far (T := T) (by omega)
    generalize cnt l p = c at *
    have t1 : ((c : Int) == 0) = false := by rw [beq_eq_false_iff_ne]; omega
    clear hT hfar
    go_enter Try.func9, Try.ntmps9
    go_wp2_with fail
    refine h1.mono ?_
    rintro e w1 ⟨rfl, rfl⟩
    go_wp2
    go_ret2
    exact ⟨by rw [hR.out]; rfl, 0, rfl⟩
  · have hAd : decide ((4611686018427387904 : Int) - f < n) = false := by simp; omega
    have hA' : (n : Int) ≤ 4611686018427387904 - f := by omega
    have h2 := ahead_any sb lb cap l w h p f hf
    have hle := ahead_le l p hpos f
    obtain ⟨N, hN⟩ : ∃ N, Hid (N = n + ahead l p f) := ⟨_, rfl⟩
    obtain ⟨q, _, hq⟩ := isPlace_some l p (N % cnt l p) l.length (Nat.le_refl _) (by rw [cnt_take_all]; exact Nat.mod_lt _ hc)
    have hpl := place_nth hpos hq
    have hTe : T = N / cnt l p * l.length + q := hT.unique hpos (isNth_of hpos hpl.1 (by rw [hpl.2, hN.out]; omega))
    have h3 := fun W (hW : Ents W lb l) => place_any lb cap l p W h64 hW _ q hq
    have hq' := hq.1
    have hr := fun m => round_any sb lb cap l (w.drewN m) (h.drewN m)
    clear hpl hq hT hfar
    have eN : (n : Int) + (ahead l p f : Nat) = (N : Int) := by rw [hN.out]; omega
    have hN62 : (N : Int) ≤ 4611686018427387904 := by omega
    generalize ahead l p f = A at *
    have eR : (N : Int) / (cnt l p : Nat) = ((N / cnt l p : Nat) : Int) := by simp
    have eM : (N : Int) % (cnt l p : Nat) = ((N % cnt l p : Nat) : Int) := by simp
    have hRN : N / cnt l p ≤ N := Nat.div_le_self _ _
    generalize N / cnt l p = R at *
    generalize N % cnt l p = M at *
    generalize cnt l p = c at *
    have t1 : ((c : Int) == 0) = false := by rw [beq_eq_false_iff_ne]; omega
    have tz : ((l.length : Int) == 0) = false := by rw [beq_eq_false_iff_ne]; omega
    have eL : (4611686018427387904 : Int) / (l.length : Int) = ((4611686018427387904 / l.length : Nat) : Int) := by simp
    have hL1 : 4611686018427387904 / l.length * l.length ≤ 4611686018427387904 := Nat.div_mul_le_self _ _
    have hL2 : 4611686018427387904 < (4611686018427387904 / l.length + 1) * l.length := by
      have := Nat.lt_mul_div_succ 4611686018427387904 hpos
      rw [Nat.mul_comm] at this; exact this
    have hL3 : 4611686018427387904 / l.length ≤ 4611686018427387904 := Nat.div_le_self _ _
    generalize 4611686018427387904 / l.length = L at *
    by_cases hB : L < R
    · have hR : Hid (nthR T = _) := nthR_far (T := T) (by
        have := Nat.mul_le_mul_right l.length (show L + 1 ≤ R from hB)
        omega)
      have hB' : (L : Int) < (R : Int) := by omega
      clear hTe hL1 hL2
      go_enter Try.func9, Try.ntmps9
      go_wp2_with fail
      refine h1.mono ?_
      rintro e w1 ⟨rfl, rfl⟩
      go_wp2_with fail
      refine h2.mono ?_
      rintro e w2 ⟨rfl, n2, rfl⟩
      go_wp2_with fail
      refine (hr _).mono ?_
      rintro e w3 ⟨rfl, rfl⟩
      go_wp2
      go_ret2
      exact ⟨by rw [hR.out]; rfl, n2, rfl⟩
    · have hBd : decide ((L : Int) < (R : Int)) = false := by simp; omega
      have hB' : (R : Int) ≤ (L : Int) := by omega
      have eP : (R : Int) * (l.length : Int) = ((R * l.length : Nat) : Int) := by simp
      have hP : R * l.length ≤ 4611686018427387904 := Nat.le_trans (Nat.mul_le_mul_right _ (by omega)) hL1
      generalize R * l.length = P at *
      clear hL1 hL2
      by_cases hC : 4611686018427387904 < P + q
      · have hR : Hid (nthR T = _) := nthR_far (T := T) (by omega)
        have hC' : (4611686018427387904 : Int) < (P : Int) + q := by omega
        clear hTe
        go_enter Try.func9, Try.ntmps9
        go_wp2_with fail
        refine h1.mono ?_
        rintro e w1 ⟨rfl, rfl⟩
        go_wp2_with fail
        refine h2.mono ?_
        rintro e w2 ⟨rfl, n2, rfl⟩
        go_wp2_with fail
        refine (hr _).mono ?_
        rintro e w3 ⟨rfl, rfl⟩
        go_wp2_with fail
        obtain ⟨wr, hw⟩ : ∃ W, Hid (W = w1.drewN n2) := ⟨_, rfl⟩
        rw [← hw.out]
        have hS : Sl wr sb lb cap l := by rw [hw.out]; exact h.drewN n2
        have hc0 := hS.c0
        have hr2 := fun m => round_any sb lb cap l (wr.drewN m) (hS.drewN m)
        have h32 := fun m => h3 (wr.drewN m) (hS.drewN m).ent
        clear h3 hr h2 h1 h0
        go_quiet (first | with_reducible exact Calls.quiet_of_same (hr2 _) | with_reducible exact Calls.quiet_of_same (h32 _))
        go_wp2
        go_ret2
        exact ⟨by rw [hR.out]; rfl, n2 + nq, by rw [hw.out, World.drewN_drewN]⟩
      · have hR : Hid (nthR T = _) := nthR_near (T := T) (by omega)
        have hC' : (P : Int) + q ≤ (4611686018427387904 : Int) := by omega
        have hCd : decide ((4611686018427387904 : Int) < (P : Int) + q) = false := by simp; omega
        have hTe : Hid (T = P + q) := hTe
        rw [hTe.out, show ((P + q : Nat) : Int) = (P : Int) + q by omega] at hR
        go_enter Try.func9, Try.ntmps9
        go_wp2_with fail
        refine h1.mono ?_
        rintro e w1 ⟨rfl, rfl⟩
        go_wp2_with fail
        refine h2.mono ?_
        rintro e w2 ⟨rfl, n2, rfl⟩
        go_wp2_with fail
        refine (hr _).mono ?_
        rintro e w3 ⟨rfl, rfl⟩
        go_wp2_with fail
        obtain ⟨wr, hw⟩ : ∃ W, Hid (W = w1.drewN n2) := ⟨_, rfl⟩
        rw [← hw.out]
        have hS : Sl wr sb lb cap l := by rw [hw.out]; exact h.drewN n2
        have hc0 := hS.c0
        have hr2 := fun m => round_any sb lb cap l (wr.drewN m) (hS.drewN m)
        have h32 := fun m => h3 (wr.drewN m) (hS.drewN m).ent
        clear h3 hr h2 h1 h0
        go_quiet (first | with_reducible exact Calls.quiet_of_same (hr2 _) | with_reducible exact Calls.quiet_of_same (h32 _))
        go_wp2
        go_ret2
        exact ⟨by rw [hTe.out, hR.out]; rfl, n2 + nq, by rw [hw.out, World.drewN_drewN]⟩
end Go.Proofs.Ytcececjnndhalaa
