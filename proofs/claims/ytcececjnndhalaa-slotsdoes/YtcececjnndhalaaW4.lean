/- Gap. -/
import Derived.Test.YtcececjnndhalaaW3
namespace Go.Proofs.Ytcececjnndhalaa
open Go.RowKit

set_option maxRecDepth 100000 in
set_option maxHeartbeats 1000000 in
theorem gap_any (sb lb cap : Nat) (l : List Int) (w : World) (h : Sl w sb lb cap l) (p : Int) (G : Nat) (hG : IsGap l p G) :
    Calls Try.prog 13 #[.pointer (some ⟨sb, 0, none⟩), .int .i64 p] w fun e w' => e = .returned (.int .i64 G) ∧ ∃ n, w' = w.drewN n := by
  have hr := round_any sb lb cap l w h
  have hl := fun n => len_any sb lb cap l (w.drewN n) (h.drewN n)
  have ho := fun n t ht => owner_any sb lb cap l (w.drewN n) (h.drewN n) t ht
  have h64 := h.len
  have hpos := h.pos
  have hG' : Hid (IsGap l p G) := hG
  clear hG
  go_enter Try.func13, Try.ntmps13
  go_wp2
  go_step3
  go_wp2_with fail
  go_step3
  go_wp2_with fail
  refine hr.mono ?_
  rintro e w1 ⟨rfl, rfl⟩
  go_wp2_with fail
  go_loopw [5, 10] (fun a i wr => ∃ k g n : Nat, k ≤ l.length ∧ g ≤ l.length ∧ i = .int .i64 k ∧ a = .int .i64 g ∧ Hid (GapTo l p k g) ∧ wr = w1.drewN n) (fun _ i _ => l.length - (intOf i).toNat)
  case atStart => exact ⟨0, 0, 0, Nat.zero_le _, Nat.zero_le _, rfl, rfl, GapTo.start l p, rfl⟩
  case round =>
    obtain ⟨k, g, n, hk, hg, rfl, rfl, hgt, rfl⟩ := hrel
    by_cases hlt : k < l.length
    · have hlt' : (k : Int) < (l.length : Int) := by omega
      go_wp2_with fail
      refine (hl _).mono ?_
      rintro e w2 ⟨rfl, rfl⟩
      go_wp2_with fail
      go_loopw [5, 15] (fun a i wr => ∃ j m : Nat, j ≤ l.length ∧ a = .int .i64 g ∧ i = .int .i64 j ∧ Hid (∀ x, x < j → ownN l (k + x) ≠ p) ∧ wr = w1.drewN m) (fun _ i _ => l.length - (intOf i).toNat)
      case atStart => exact ⟨0, n, Nat.zero_le _, rfl, rfl, fun x hx => absurd hx (Nat.not_lt_zero x), rfl⟩
      case round =>
        obtain ⟨j, m, hj, rfl, rfl, hno, rfl⟩ := hrel
        by_cases hjl : j < l.length
        · have hjl' : (j : Int) < (l.length : Int) := by omega
          have hok := ho m (k + j) (by omega)
          have ec : ((k + j : Nat) : Int) = (k : Int) + (j : Int) := by omega
          rw [ec] at hok
          by_cases he : ownN l (k + j) = p
          · have H : Hid (GapTo l p (k + 1) (max g (j + 1))) := hgt.out.next hjl hno.out he
            generalize ownN l (k + j) = x at *
            have t1 : (x == p) = true := by rw [beq_iff_eq]; exact he
            clear he ec
            by_cases hmx : g < j + 1
            · rw [Hid, Nat.max_eq_right (Nat.le_of_lt hmx)] at H
              have H : Hid _ := H
              have hmx' : (g : Int) < (j : Int) + 1 := by omega
              go_wp2_with fail
              refine hok.mono ?_
              rintro e w3 ⟨rfl, m3, rfl⟩
              go_wp2
              go_roundw
              case rel => exact ⟨k + 1, j + 1, m + m3, by omega, by omega, by go_num, by go_num, H, rfl⟩
              case measure => simp [intOf]; omega
            · rw [Hid, Nat.max_eq_left (by omega)] at H
              have H : Hid _ := H
              have hmx' : (j : Int) + 1 ≤ (g : Int) := by omega
              go_wp2_with fail
              refine hok.mono ?_
              rintro e w3 ⟨rfl, m3, rfl⟩
              go_wp2
              go_roundw
              case rel => exact ⟨k + 1, g, m + m3, by omega, by omega, by go_num, by go_num, H, rfl⟩
              case measure => simp [intOf]; omega
          · have H : Hid (∀ x, x < j + 1 → ownN l (k + x) ≠ p) := fun x hx => by
              by_cases e : x = j
              · subst e; exact he
              · exact hno.out x (by omega)
            generalize ownN l (k + j) = x at *
            have t1 : (x == p) = false := by rw [beq_eq_false_iff_ne]; exact he
            clear he ec
            go_wp2_with fail
            refine hok.mono ?_
            rintro e w3 ⟨rfl, m3, rfl⟩
            go_wp2
            go_roundw
            case rel => exact ⟨j + 1, m + m3, by omega, rfl, by go_num, H, rfl⟩
            case measure => simp [intOf]; omega
        · have ek : j = l.length := by omega
          subst ek
          have E : Hid (0 = G) := (isGap_none hpos hno.out).unique hG'.out
          go_wp2
          try rw [Exit.noGoto_ret]
          go_ret
          exact ⟨by rw [← E.out]; rfl, m, rfl⟩
    · have ek : k = l.length := by omega
      subst ek
      have E : Hid (g = G) := hgt.out.done hpos |>.unique hG'.out
      go_wp2
      try rw [Exit.noGoto_ret]
      go_ret
      exact ⟨by rw [← E.out]; rfl, n, rfl⟩
end Go.Proofs.Ytcececjnndhalaa
