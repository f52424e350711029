/- Counting. -/
import Derived.Test.YtcececjnndhalaaW1
namespace Go.Proofs.Ytcececjnndhalaa
open Go.RowKit

set_option maxRecDepth 100000 in
set_option maxHeartbeats 1000000 in
theorem ahead_any (sb lb cap : Nat) (l : List Int) (w : World) (h : Sl w sb lb cap l) (p : Int) (t : Nat) (ht : t < 9223372036854775808) :
    Calls Try.prog 21 #[.pointer (some ⟨sb, 0, none⟩), .int .i64 p, .int .i64 t] w fun e w' => e = .returned (.int .i64 (ahead l p t : Nat)) ∧ ∃ n, w' = w.drewN n := by
  have h0 := h.c0
  have hcap := h.cap
  have h64 := h.len
  have hr := fun n => round_any sb lb cap l (w.drewN n) (h.drewN n)
  have hp := h.pos
  have hm := Nat.mod_lt t hp
  have h1 := fun n => entries_any lb l.length cap l p (w.drewN n) (Nat.le_refl _) h64 (h.drewN n).ent
  have h2 := fun n => entries_any lb (t % l.length) cap l p (w.drewN n) (by omega) h64 (h.drewN n).ent
  have hA : Hid (ahead l p t = t / l.length * cnt l p + cnt (l.take (t % l.length)) p) := rfl
  have hle := ahead_le l p hp t
  rw [hA.out] at hle
  rw [cnt_take_all] at h1
  have ed : (t : Int) / (l.length : Int) = ((t / l.length : Nat) : Int) := by simp
  have em : (t : Int) % (l.length : Int) = ((t % l.length : Nat) : Int) := by simp
  rw [hA.out]
  clear hA
  have hz : ((l.length : Int) == 0) = false := by rw [beq_eq_false_iff_ne]; omega
  generalize cnt l p = c at *
  generalize cnt (l.take (t % l.length)) p = d at *
  have hqt : t / l.length ≤ t := Nat.div_le_self _ _
  generalize t / l.length = q at *
  generalize t % l.length = m at *
  have ep : (q : Int) * (c : Int) = ((q * c : Nat) : Int) := by simp
  generalize q * c = r at *
  go_enter Try.func21, Try.ntmps21
  go_wp2_with fail
  go_quiet (first | with_reducible exact Calls.quiet_of_same (hr _) | with_reducible exact Calls.quiet_of_same (h1 _) | with_reducible exact Calls.quiet_of_same (h2 _))
  go_wp2
  go_ret
  refine ⟨ret_int ?_, _, rfl⟩
  omega

set_option maxRecDepth 100000 in
set_option maxHeartbeats 1000000 in
theorem place_any (lb cap : Nat) (l : List Int) (p : Int) (w : World) (h64 : l.length ≤ 64) (hc : Ents w lb l) (n q : Nat) (hq : IsPlace l p n q) :
    Calls Try.prog 23 #[.slice (some ⟨lb, 0, none⟩) l.length cap, .int .i64 p, .int .i64 n] w fun e w' => e = .returned (.int .i64 q) ∧ w' = w := by
  obtain ⟨hq1, hq2, hq3⟩ := hq
  have hn64 : n ≤ 64 := by have := cnt_take_le l p q; omega
  have hq3 : Hid (cnt (l.take q) p = n) := hq3
  have hq2 : Hid (l.getD q 0 = p) := hq2
  go_enter Try.func23, Try.ntmps23
  go_wp2
  go_loop [2, 11] (fun c i => ∃ k m : Nat, k ≤ q ∧ m ≤ n ∧ i = .int .i64 k ∧ c = .int .i64 m ∧ Hid (m + cnt (l.take k) p = n)) (fun _ i => q + 1 - (intOf i).toNat)
  case atStart => exact ⟨0, n, Nat.zero_le _, Nat.le_refl _, rfl, rfl, by show _ = _; simp [cnt]⟩
  case round =>
    obtain ⟨k, m, hk, hmn, rfl, rfl, hm⟩ := hrel
    have hx := hc k (by omega)
    have hs : Hid (cnt (l.take (k + 1)) p = cnt (l.take k) p + (if l.getD k 0 = p then 1 else 0)) := cnt_take_succ l p k (by omega)
    have hlt' : (k : Int) < (l.length : Int) := by omega
    by_cases he : l.getD k 0 = p
    · by_cases e : k = q
      · have hm0 : Hid (m = 0) := by
          have := hm.out
          rw [e, hq3.out] at this
          show _ = _
          omega
        have t2 : ((m : Int) == 0) = true := by rw [beq_iff_eq, hm0.out]; rfl
        clear hs
        generalize l.getD k 0 = x at *
        have t1 : (x == p) = true := by rw [beq_iff_eq]; exact he
        have t1' : (x != p) = false := by simp [he]
        clear he
        have E : Hid (k = q) := e
        clear e
        go_wp2
        go_ret
        exact ⟨ret_int (by rw [E.out]), rfl⟩
      · have hm1 : 0 < m := by
          have h1 := hm.out
          have h2 := hs.out
          rw [if_pos he] at h2
          have h3 := cnt_take_mono l p (k + 1) q (by omega)
          have h4 := hq3.out
          omega
        have H : Hid (m - 1 + cnt (l.take (k + 1)) p = n) := by
          have h1 := hm.out
          show _ = _
          rw [hs.out, if_pos he]
          omega
        have t2 : ((m : Int) == 0) = false := by rw [beq_eq_false_iff_ne]; omega
        clear hs
        generalize l.getD k 0 = x at *
        have t1 : (x == p) = true := by rw [beq_iff_eq]; exact he
        have t1' : (x != p) = false := by simp [he]
        clear he
        go_wp2
        go_round
        case rel => exact ⟨k + 1, m - 1, by omega, by omega, by go_num, by go_num, H⟩
        case measure => simp [intOf]; omega
    · have H : Hid (m + cnt (l.take (k + 1)) p = n) := by
        have h1 := hm.out
        show _ = _
        rw [hs.out, if_neg he]
        omega
      have ne : k ≠ q := fun e => he (by rw [e]; exact hq2.out)
      clear hs
      generalize l.getD k 0 = x at *
      have t1 : (x == p) = false := by rw [beq_eq_false_iff_ne]; exact he
      have t1' : (x != p) = true := by simp [he]
      clear he
      go_wp2
      go_round
      case rel => exact ⟨k + 1, m, by omega, by omega, by go_num, rfl, H⟩
      case measure => simp [intOf]; omega

set_option maxRecDepth 100000 in
set_option maxHeartbeats 1000000 in
theorem rin_any (sb lb cap : Nat) (l : List Int) (w : World) (h : Sl w sb lb cap l) (p : Int) (n : Nat) (hn : n ≤ l.length) :
    Calls Try.prog 24 #[.pointer (some ⟨sb, 0, none⟩), .int .i64 p, .int .i64 n] w fun e w' => e = .returned (.int .i64 (cnt (l.take n) p : Nat)) ∧ ∃ n, w' = w.drewN n := by
  have h64 := h.len
  go_enter Try.func24, Try.ntmps24
  go_wp2
  go_loopw [7, 8] (fun c i wr => ∃ k m : Nat, k ≤ n ∧ m ≤ k ∧ i = .int .i64 k ∧ c = .int .i64 m ∧ Hid (m = cnt (l.take k) p) ∧ ∃ n, wr = w.drewN n) (fun _ i _ => n - (intOf i).toNat)
  case atStart => exact ⟨0, 0, Nat.zero_le _, Nat.zero_le _, rfl, rfl, rfl, 0, rfl⟩
  case round =>
    obtain ⟨k, m, hk, hmk, rfl, rfl, hm, nd, rfl⟩ := hrel
    by_cases hlt : k < n
    · have h0 := (h.drewN nd).c0
      have hx := (h.drewN nd).ent k (by omega)
      have hs : Hid (cnt (l.take (k + 1)) p = cnt (l.take k) p + (if l.getD k 0 = p then 1 else 0)) := cnt_take_succ l p k (by omega)
      have hlt' : (k : Int) < (n : Int) := by omega
      have hlt2 : (k : Int) < (l.length : Int) := by omega
      by_cases he : l.getD k 0 = p
      · have H : Hid (m + 1 = cnt (l.take (k + 1)) p) := by
          show _ = _
          rw [hs.out, if_pos he, hm.out]
        clear hs
        generalize l.getD k 0 = x at *
        have t1 : (x == p) = true := by rw [beq_iff_eq]; exact he
        clear he
        go_wp2
        exact ⟨⟨k + 1, m + 1, by omega, by omega, by go_num, by go_num, H, _, rfl⟩, by simp [intOf]; omega⟩
      · have H : Hid (m = cnt (l.take (k + 1)) p) := by
          show _ = _
          rw [hs.out, if_neg he, hm.out]; rfl
        clear hs
        generalize l.getD k 0 = x at *
        have t1 : (x == p) = false := by rw [beq_eq_false_iff_ne]; exact he
        clear he
        go_wp2
        exact ⟨⟨k + 1, m, by omega, by omega, by go_num, rfl, H, _, rfl⟩, by simp [intOf]; omega⟩
    · have ek : k = n := by omega
      subst ek
      go_wp2
      go_ret
      exact ⟨by rw [hm.out]; rfl, nd, rfl⟩

set_option maxRecDepth 100000 in
set_option maxHeartbeats 1000000 in
theorem rahead_any (sb lb cap : Nat) (l : List Int) (w : World) (h : Sl w sb lb cap l) (p : Int) (t : Nat) (ht : t < 9223372036854775808) :
    Calls Try.prog 25 #[.pointer (some ⟨sb, 0, none⟩), .int .i64 p, .int .i64 t] w fun e w' => e = .returned (.int .i64 (ahead l p t : Nat)) ∧ ∃ n, w' = w.drewN n := by
  have h0 := h.c0
  have hcap := h.cap
  have h64 := h.len
  have hp := h.pos
  have hm := Nat.mod_lt t hp
  have h1 := fun n => rin_any sb lb cap l (w.drewN n) (h.drewN n) p l.length (Nat.le_refl _)
  have h2 := fun n => rin_any sb lb cap l (w.drewN n) (h.drewN n) p (t % l.length) (by omega)
  have hA : Hid (ahead l p t = t / l.length * cnt l p + cnt (l.take (t % l.length)) p) := rfl
  have hle := ahead_le l p hp t
  rw [hA.out] at hle
  rw [cnt_take_all] at h1
  have ed : (t : Int) / (l.length : Int) = ((t / l.length : Nat) : Int) := by simp
  have em : (t : Int) % (l.length : Int) = ((t % l.length : Nat) : Int) := by simp
  rw [hA.out]
  clear hA
  have hz : ((l.length : Int) == 0) = false := by rw [beq_eq_false_iff_ne]; omega
  have ht0 : decide ((t : Int) < 0) = false := by simp
  generalize cnt l p = c at *
  generalize cnt (l.take (t % l.length)) p = d at *
  have hqt : t / l.length ≤ t := Nat.div_le_self _ _
  generalize t / l.length = q at *
  generalize t % l.length = m at *
  have ep : (q : Int) * (c : Int) = ((q * c : Nat) : Int) := by simp
  generalize q * c = r at *
  go_enter Try.func25, Try.ntmps25
  go_wp2_with fail
  go_quiet (first | with_reducible exact Calls.quiet_of (h1 _) | with_reducible exact Calls.quiet_of (h2 _))
  go_wp2
  go_ret
  refine ⟨ret_int ?_, _, rfl⟩
  omega

set_option maxHeartbeats 400000 in
theorem rahead_neg (sb : Nat) (w : World) (p : Int) (t : Int) (ht : t < 0) :
    Calls Try.prog 25 #[.pointer (some ⟨sb, 0, none⟩), .int .i64 p, .int .i64 t] w fun e w' => e = .returned (.int .i64 0) ∧ w' = w := by
  go_enter Try.func25, Try.ntmps25
  go_wp2
  go_ret
  exact ⟨rfl, rfl⟩

end Go.Proofs.Ytcececjnndhalaa
