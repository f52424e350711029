/- Count. -/
import Derived.Test.YtcececjnndhalaaW2
namespace Go.Proofs.Ytcececjnndhalaa
open Go.RowKit

theorem countN_zero {l : List Int} {p a b : Int} (hp : 0 < l.length) (h : b.toNat ≤ a.toNat) : countN l p a b = 0 := by
  have := ahead_mono l p hp _ _ h
  unfold countN
  omega

set_option maxRecDepth 100000 in
set_option maxHeartbeats 1000000 in
theorem count_none (sb : Nat) (w : World) (p b : Int) (f : Nat) (hf : f < 9223372036854775808) (hle : b ≤ f) :
    Calls Try.prog 15 #[.pointer (some ⟨sb, 0, none⟩), .int .i64 p, .int .i64 f, .int .i64 b] w fun e w' => e = .returned (.int .i64 0) ∧ w' = w := by
  go_enter Try.func15, Try.ntmps15
  go_wp2
  go_ret
  exact ⟨rfl, rfl⟩

set_option maxRecDepth 100000 in
set_option maxHeartbeats 1000000 in
theorem count_none_neg (sb : Nat) (w : World) (p b a : Int) (ha : a < 0) (hle : b ≤ 0) :
    Calls Try.prog 15 #[.pointer (some ⟨sb, 0, none⟩), .int .i64 p, .int .i64 a, .int .i64 b] w fun e w' => e = .returned (.int .i64 0) ∧ w' = w := by
  go_enter Try.func15, Try.ntmps15
  go_wp2
  go_ret
  exact ⟨rfl, rfl⟩

set_option maxRecDepth 100000 in
set_option maxHeartbeats 1000000 in
theorem count_some (sb lb cap : Nat) (l : List Int) (w : World) (h : Sl w sb lb cap l) (p : Int) (f u : Nat) (hu : u < 9223372036854775808) (hlt : f < u) :
    Calls Try.prog 15 #[.pointer (some ⟨sb, 0, none⟩), .int .i64 p, .int .i64 f, .int .i64 u] w fun e w' => e = .returned (.int .i64 (ahead l p u - ahead l p f : Nat)) ∧ ∃ n, w' = w.drewN n := by
  have h1 := ahead_any sb lb cap l w h p u (by omega)
  have h2 := fun n => ahead_any sb lb cap l (w.drewN n) (h.drewN n) p f (by omega)
  have l1 := ahead_le l p h.pos u
  have l2 := ahead_mono l p h.pos f u (by omega)
  generalize ahead l p u = x at *
  generalize ahead l p f = y at *
  have hd : decide ((u : Int) ≤ f) = false := by simp; omega
  have hlt' : (f : Int) < u := by omega
  go_enter Try.func15, Try.ntmps15
  go_wp2_with fail
  refine h1.mono ?_
  rintro e w1 ⟨rfl, n1, rfl⟩
  go_wp2_with fail
  refine (h2 _).mono ?_
  rintro e w2 ⟨rfl, n2, rfl⟩
  go_wp2
  go_ret
  refine ⟨ret_int (by omega), ?_⟩
  exact ⟨n1 + n2, rfl⟩

set_option maxRecDepth 100000 in
set_option maxHeartbeats 1000000 in
theorem count_some_neg (sb lb cap : Nat) (l : List Int) (w : World) (h : Sl w sb lb cap l) (p a : Int) (u : Nat) (ha : a < 0) (hu : u < 9223372036854775808) (hlt : 0 < u) :
    Calls Try.prog 15 #[.pointer (some ⟨sb, 0, none⟩), .int .i64 p, .int .i64 a, .int .i64 u] w fun e w' => e = .returned (.int .i64 (ahead l p u : Nat)) ∧ ∃ n, w' = w.drewN n := by
  have h1 := ahead_any sb lb cap l w h p u (by omega)
  have h2 := fun n => ahead_any sb lb cap l (w.drewN n) (h.drewN n) p 0 (by omega)
  have l1 := ahead_le l p h.pos u
  rw [ahead_zero] at h2
  generalize ahead l p u = x at *
  have hd : decide ((u : Int) ≤ 0) = false := by simp; omega
  have hlt' : (0 : Int) < u := by omega
  go_enter Try.func15, Try.ntmps15
  go_wp2_with fail
  refine h1.mono ?_
  rintro e w1 ⟨rfl, n1, rfl⟩
  go_wp2_with fail
  refine (h2 _).mono ?_
  rintro e w2 ⟨rfl, n2, rfl⟩
  go_wp2
  go_ret
  refine ⟨ret_int (by omega), ?_⟩
  exact ⟨n1 + n2, rfl⟩

theorem count_any (sb lb cap : Nat) (l : List Int) (w : World) (h : Sl w sb lb cap l) (p a b : Int) (ha : a < 9223372036854775808) (hb : b < 9223372036854775808) :
    Calls Try.prog 15 #[.pointer (some ⟨sb, 0, none⟩), .int .i64 p, .int .i64 a, .int .i64 b] w fun e w' => e = .returned (.int .i64 (countN l p a b : Nat)) ∧ ∃ n, w' = w.drewN n := by
  by_cases ha0 : a < 0
  · by_cases hb0 : b ≤ 0
    · rw [countN_zero h.pos (by omega)]
      exact (count_none_neg sb w p b a ha0 hb0).mono fun e w' ⟨h1, h2⟩ => ⟨h1, 0, h2⟩
    · obtain ⟨u, rfl⟩ : ∃ u : Nat, b = (u : Int) := ⟨b.toNat, by omega⟩
      have e0 : countN l p a u = ahead l p u := by
        unfold countN
        rw [show a.toNat = 0 by omega, ahead_zero]
        simp
      rw [e0]
      exact count_some_neg sb lb cap l w h p a u ha0 (by omega) (by omega)
  · obtain ⟨f, rfl⟩ : ∃ f : Nat, a = (f : Int) := ⟨a.toNat, by omega⟩
    by_cases hb0 : b ≤ f
    · rw [countN_zero h.pos (by omega)]
      exact (count_none sb w p b f (by omega) hb0).mono fun e w' ⟨h1, h2⟩ => ⟨h1, 0, h2⟩
    · obtain ⟨u, rfl⟩ : ∃ u : Nat, b = (u : Int) := ⟨b.toNat, by omega⟩
      exact count_some sb lb cap l w h p f u (by omega) (by omega)

theorem rahead_at (sb lb cap : Nat) (l : List Int) (w : World) (h : Sl w sb lb cap l) (p a : Int) (ha : a < 9223372036854775808) :
    Calls Try.prog 25 #[.pointer (some ⟨sb, 0, none⟩), .int .i64 p, .int .i64 a] w fun e w' => e = .returned (.int .i64 (ahead l p a.toNat : Nat)) ∧ ∃ n, w' = w.drewN n := by
  by_cases h0 : a < 0
  · refine (rahead_neg sb w p a h0).mono ?_
    rintro e w' ⟨rfl, rfl⟩
    refine ⟨?_, 0, rfl⟩
    rw [show a.toNat = 0 by omega, ahead_zero]
    rfl
  · obtain ⟨n, rfl⟩ : ∃ n : Nat, a = n := ⟨a.toNat, by omega⟩
    exact rahead_any sb lb cap l w h p n (by omega)

set_option maxRecDepth 100000 in
set_option maxHeartbeats 1000000 in
theorem rcount_any (sb lb cap : Nat) (l : List Int) (w : World) (h : Sl w sb lb cap l) (p a b : Int) (ha : a < 9223372036854775808) (hb : b < 9223372036854775808) :
    Calls Try.prog 16 #[.pointer (some ⟨sb, 0, none⟩), .int .i64 p, .int .i64 a, .int .i64 b] w fun e w' => e = .returned (.int .i64 (countN l p a b : Nat)) ∧ ∃ n, w' = w.drewN n := by
  by_cases hle : b ≤ a
  · have e0 : Hid (countN l p a b = 0) := countN_zero h.pos (by omega)
    go_enter Try.func16, Try.ntmps16
    go_wp2
    go_ret
    exact ⟨by rw [e0.out]; rfl, 0, rfl⟩
  · have h1 := rahead_at sb lb cap l w h p b hb
    have h2 := fun n => rahead_at sb lb cap l (w.drewN n) (h.drewN n) p a ha
    have l1 := ahead_le l p h.pos b.toNat
    have l2 := ahead_mono l p h.pos a.toNat b.toNat (by omega)
    have l3 : ahead l p b.toNat < 9223372036854775808 := by omega
    unfold countN
    generalize ahead l p b.toNat = x at *
    generalize ahead l p a.toNat = y at *
    clear l1
    have hd : decide (b ≤ a) = false := by simp; omega
    have hlt : a < b := by omega
    go_enter Try.func16, Try.ntmps16
    go_wp2_with fail
    refine h1.mono ?_
    rintro e w1 ⟨rfl, n1, rfl⟩
    go_wp2_with fail
    refine (h2 _).mono ?_
    rintro e w2 ⟨rfl, n2, rfl⟩
    go_wp2
    go_ret
    exact ⟨ret_int (by omega), n1 + n2, rfl⟩

end Go.Proofs.Ytcececjnndhalaa
