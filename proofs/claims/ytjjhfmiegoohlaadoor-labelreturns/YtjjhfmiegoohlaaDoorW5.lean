/- label.Parse. -/
import Derived.Test.YtjjhfmiegoohlaaDoorW4
import Derived.WalkMore
import Derived.Deep.LoopGhost
namespace Go.Proofs.YtjjhfmiegoohlaaDoor
open Go.RowKit

def R3 (r : Nat × Nat × Nat) : Ending := .returned (.tuple #[.int .u64 r.1, .int .i64 r.2.1, .int .i64 r.2.2])

theorem broken_at (s : ByteArray) (n : Nat) (z : Int) (hz : z = n) (w : World) :
    Calls Tryd.prog 30 #[.string s, .int .i64 z] w fun e w' => e = .returned (.tuple #[.int .u64 (brokenL s.size n).1, .int .i64 (brokenL s.size n).2.1, .int .i64 (brokenL s.size n).2.2]) ∧ w' = w := by
  subst hz
  exact broken_any s n w

theorem common_whole (s t : ByteArray) (c : Nat) (hs : s.size ≤ maxLen) (ht : t.size ≤ maxLen) (hc : Hid (comm s.data.toList t.data.toList = c)) (w : World) :
    Calls Tryd.prog 28 #[.string s, .string t] w fun e w' => e = .returned (.int .i64 c) ∧ ∃ n, w' = w.drewN n := by
  have := common_any s t hs ht w
  rw [hc.out] at this
  exact this

set_option maxRecDepth 100000 in
set_option maxHeartbeats 1000000 in
theorem parse_any (s : ByteArray) (hs : s.size ≤ 140737488355328) (w : World) :
    Calls Tryd.prog 21 #[.string s] w fun e w' => e = R3 (parseL s.data.toList) ∧ ∃ n, w' = w.drewN n := by
  have hm : s.size ≤ maxLen := by unfold maxLen; omega
  have HC : ∃ c, Hid (comm s.data.toList [123, 125] = c) := ⟨_, rfl⟩
  obtain ⟨c, hc⟩ := HC
  by_cases h2 : c = 2
  · have e1 : parseL s.data.toList = closedL s.size 0 2 := by unfold parseL; rw [hc.out, if_pos h2, len_eq]
    rw [e1]
    subst h2
    clear e1
    go_enter Tryd.func21, Tryd.ntmps21
    go_wp2
    go_step3
    go_wp2_with (first | (go_at_call 28; refine (common_whole s ⟨#[123, 125]⟩ 2 hm (by decide) hc _).mono ?_; rintro e w' ⟨rfl, n, rfl⟩) | (go_at_call 29; refine (closed_any s 0 2 _).mono ?_; rintro e w' ⟨rfl, rfl⟩))
    try rw [Exit.noGoto_ret]
    go_ret3
    exact ⟨rfl, n, rfl⟩
  · have h2' : (((c : Int) == 2) : Bool) = false := by simp; omega
    have HC : ∃ d, Hid (comm s.data.toList [123] = d) := ⟨_, rfl⟩
    obtain ⟨d, hd⟩ := HC
    by_cases h0 : d = 0
    · have e1 : parseL s.data.toList = brokenL s.size 0 := by unfold parseL; rw [hc.out, hd.out, if_neg h2, if_pos h0, len_eq]
      rw [e1]
      subst h0
      clear e1
      go_enter Tryd.func21, Tryd.ntmps21
      go_wp2
      go_step3
      go_wp2_with fail
      refine (common_whole s ⟨#[123, 125]⟩ c hm (by decide) hc _).mono ?_
      rintro e w' ⟨rfl, n, rfl⟩
      go_wp2_with fail
      refine (common_whole s ⟨#[123]⟩ 0 hm (by decide) hd _).mono ?_
      rintro e w' ⟨rfl, n2, rfl⟩
      go_wp2_with (go_at_call 30; refine (broken_any s 0 _).mono ?_; rintro e w' ⟨rfl, rfl⟩)
      try rw [Exit.noGoto_ret]
      go_ret3
      exact ⟨rfl, n + n2, by simp⟩
    · have e1 : parseL s.data.toList = pgo s.data.toList 64 0 1 1 := by unfold parseL; rw [hc.out, hd.out, if_neg h2, if_neg h0]
      obtain ⟨R, hR⟩ : ∃ R, Hid (R = pgo s.data.toList 64 0 1 1) := ⟨_, rfl⟩
      rw [e1, ← hR.out]
      have h0' : (((d : Int) == 0) : Bool) = false := by simp; omega
      have h1 : 1 ≤ s.size := by
        have := comm_le s.data.toList [123]
        rw [hd.out, len_eq] at this
        omega
      clear e1
      go_enter Tryd.func21, Tryd.ntmps21
      go_wp2
      go_step3
      go_wp2_with fail
      refine (common_whole s ⟨#[123, 125]⟩ c hm (by decide) hc _).mono ?_
      rintro e w' ⟨rfl, n, rfl⟩
      go_wp2_with fail
      refine (common_whole s ⟨#[123]⟩ d hm (by decide) hd _).mono ?_
      rintro e w' ⟨rfl, n2, rfl⟩
      clear hc hd
      go_wp2_with fail
      go_step3
      go_wp2_with fail
      go_loopw [5, 6, 7, 27] (fun a p f i wr => ∃ k A P F m : Nat, k ≤ 64 ∧ i = .int .i64 k ∧ a = .int .u64 A ∧ p = .int .i64 P ∧ f = .int .i64 F ∧ A < 18446744073709551616 ∧ P ≤ s.size ∧ F ≤ s.size ∧ Hid (R = pgo s.data.toList (64 - k) A P F) ∧ wr = w.drewN m) (fun _ _ _ i _ => 64 - (intOf i).toNat)
      case atStart => exact ⟨0, 0, 1, 1, n + n2, by omega, rfl, rfl, rfl, rfl, by omega, h1, h1, hR, by simp⟩
      case round =>
        obtain ⟨k, A, P, F, m, hk, rfl, rfl, rfl, rfl, hA, hP, hF, hpg, rfl⟩ := hrel
        by_cases hlt : k < 64
        · obtain ⟨c, hcc⟩ : ∃ c, Hid (comm (s.data.toList.drop P) (dec k) = c) := ⟨_, rfl⟩
          have hcl := comm_le (s.data.toList.drop P) (dec k)
          rw [hcc.out, List.length_drop, len_eq] at hcl
          have hdl := dec_len k
          have hsz : (⟨(dec k).toArray⟩ : ByteArray).size = (dec k).length := by simp [ByteArray.size]
          have hcm : Hid (comm (s.data.toList.drop P) (⟨(dec k).toArray⟩ : ByteArray).data.toList = c) := hcc
          have hP' : (P : Int) ≤ (s.size : Int) := by omega
          have hPc : (P : Int) + (c : Int) ≤ (s.size : Int) := by omega
          by_cases hA1 : c < (dec k).length
          · have hpg2 : Hid (R = pgo s.data.toList (64 - (k + 1)) A P (max F (P + c))) := hpg.out.trans (pgo_skip hlt hcc.out (.inl hA1))
            clear hpg hcc
            by_cases hmx : F < P + c
            · rw [Hid, Nat.max_eq_right (Nat.le_of_lt hmx)] at hpg2
              have hpg3 : Hid _ := hpg2
              clear hpg2
              go_wp2_with (first | (go_at_call 27; refine (itoa_any k (by omega) _).mono ?_; rintro e w' ⟨rfl, rfl⟩) | (go_at_call 28; refine (common_at s ⟨(dec k).toArray⟩ P c hm (by rw [hsz]; unfold maxLen; omega) hcm _).mono ?_; rintro e w' ⟨rfl, m2, rfl⟩))
              go_roundw
              case rel => exact ⟨k + 1, A, P, P + c, m + m2, by omega, by go_num, rfl, rfl, by go_num, hA, hP, by omega, hpg3, by simp⟩
              case measure => simp [intOf]; omega
            · rw [Hid, Nat.max_eq_left (by omega)] at hpg2
              have hpg3 : Hid _ := hpg2
              clear hpg2
              go_wp2_with (first | (go_at_call 27; refine (itoa_any k (by omega) _).mono ?_; rintro e w' ⟨rfl, rfl⟩) | (go_at_call 28; refine (common_at s ⟨(dec k).toArray⟩ P c hm (by rw [hsz]; unfold maxLen; omega) hcm _).mono ?_; rintro e w' ⟨rfl, m2, rfl⟩))
              go_roundw
              case rel => exact ⟨k + 1, A, P, F, m + m2, by omega, by go_num, rfl, rfl, rfl, hA, hP, hF, hpg3, by simp⟩
              case measure => simp [intOf]; omega
          · by_cases hA2 : P + c = s.size
            · have hpg2 : Hid (R = pgo s.data.toList (64 - (k + 1)) A P (max F (P + c))) := hpg.out.trans (pgo_skip hlt hcc.out (.inr (by rw [len_eq]; exact hA2)))
              have ea : decide ((P : Int) + (c : Int) < (P : Int) + ((dec k).length : Int)) = false := by simp; omega
              have eb : (((P : Int) + (c : Int) == (s.size : Int)) : Bool) = true := by simp; omega
              clear hpg hcc
              have hA2' : s.size ≤ P + c := by omega
              clear hA2
              by_cases hmx : F < P + c
              · rw [Hid, Nat.max_eq_right (Nat.le_of_lt hmx)] at hpg2
                have hpg3 : Hid _ := hpg2
                clear hpg2
                go_wp2_with (first | (go_at_call 27; refine (itoa_any k (by omega) _).mono ?_; rintro e w' ⟨rfl, rfl⟩) | (go_at_call 28; refine (common_at s ⟨(dec k).toArray⟩ P c hm (by rw [hsz]; unfold maxLen; omega) hcm _).mono ?_; rintro e w' ⟨rfl, m2, rfl⟩))
                go_roundw
                case rel => exact ⟨k + 1, A, P, P + c, m + m2, by omega, by go_num, rfl, rfl, by go_num, hA, hP, by omega, hpg3, by simp⟩
                case measure => simp [intOf]; omega
              · rw [Hid, Nat.max_eq_left (by omega)] at hpg2
                have hpg3 : Hid _ := hpg2
                clear hpg2
                go_wp2_with (first | (go_at_call 27; refine (itoa_any k (by omega) _).mono ?_; rintro e w' ⟨rfl, rfl⟩) | (go_at_call 28; refine (common_at s ⟨(dec k).toArray⟩ P c hm (by rw [hsz]; unfold maxLen; omega) hcm _).mono ?_; rintro e w' ⟨rfl, m2, rfl⟩))
                go_roundw
                case rel => exact ⟨k + 1, A, P, F, m + m2, by omega, by go_num, rfl, rfl, rfl, hA, hP, hF, hpg3, by simp⟩
                case measure => simp [intOf]; omega
            · have hB : P + c < s.size := by omega
              have ea : decide ((P : Int) + (c : Int) < (P : Int) + ((dec k).length : Int)) = false := by simp; omega
              have eb : (((P : Int) + (c : Int) == (s.size : Int)) : Bool) = false := by simp; omega
              have hB' : (P : Int) + (c : Int) < (s.size : Int) := by omega
              have hno : ¬ (c < (dec k).length ∨ P + c = s.data.toList.length) := by rw [len_eq]; omega
              have hg := getD_eq s (P + c) hB
              by_cases h125 : s[P + c] = 125
              · have e1 : (((s[P + c].toNat : Int) == 125) : Bool) = true := by rw [h125]; rfl
                have hpg2 : Hid (R = closedL s.size (A ||| onlyN k) (P + c + 1)) := by rw [Hid, hpg.out, pgo_close hlt hcc.out hno (hg.trans h125), len_eq]
                have hor := u64_or_nat A (onlyN k) hA (onlyN_lt k hlt)
                clear hpg hcc hno hg h125
                by_cases hmx : F < P + c
                all_goals
                  go_wp2_with (first | (go_at_call 27; refine (itoa_any k (by omega) _).mono ?_; rintro e w' ⟨rfl, rfl⟩) | (go_at_call 28; refine (common_at s ⟨(dec k).toArray⟩ P c hm (by rw [hsz]; unfold maxLen; omega) hcm _).mono ?_; rintro e w' ⟨rfl, m2, rfl⟩) | (go_at_call 24; refine (only_any k hlt _).mono ?_; rintro e w' ⟨rfl, rfl⟩) | (go_at_call 29; rw [show ((P : Int) + (c : Int) + 1) = ((P + c + 1 : Nat) : Int) by omega]; refine (closed_any s (A ||| onlyN k) (P + c + 1) _).mono ?_; rintro e w' ⟨rfl, rfl⟩))
                  try rw [Exit.noGoto_ret]
                  go_ret3
                  exact ⟨by rw [hpg2.out]; rfl, m + m2, by simp⟩
              · have e1 : (((s[P + c].toNat : Int) == 125) : Bool) = false := u8_ne h125
                by_cases h44 : s[P + c] = 44
                · have e2 : (((s[P + c].toNat : Int) == 44) : Bool) = true := by rw [h44]; rfl
                  by_cases h63 : k = 63
                  · have hpg2 : Hid (R = brokenL s.size (max F (P + c))) := by rw [Hid, hpg.out, pgo_last hlt hcc.out hno (hg.trans h44) h63, len_eq]
                    have e3 : (((k : Int) == 63) : Bool) = true := by simp; omega
                    clear hpg hcc hno hg h44 h125 h63
                    by_cases hmx : F < P + c
                    · rw [Hid, Nat.max_eq_right (Nat.le_of_lt hmx)] at hpg2
                      have hpg3 : Hid _ := hpg2
                      clear hpg2
                      go_wp2_with (first | (go_at_call 27; refine (itoa_any k (by omega) _).mono ?_; rintro e w' ⟨rfl, rfl⟩) | (go_at_call 28; refine (common_at s ⟨(dec k).toArray⟩ P c hm (by rw [hsz]; unfold maxLen; omega) hcm _).mono ?_; rintro e w' ⟨rfl, m2, rfl⟩) | (go_at_call 30; refine (broken_at s (P + c) _ (by omega) _).mono ?_; rintro e w' ⟨rfl, rfl⟩))
                      try rw [Exit.noGoto_ret]
                      go_ret3
                      exact ⟨by rw [hpg3.out]; rfl, m + m2, by simp⟩
                    · rw [Hid, Nat.max_eq_left (by omega)] at hpg2
                      have hpg3 : Hid _ := hpg2
                      clear hpg2
                      go_wp2_with (first | (go_at_call 27; refine (itoa_any k (by omega) _).mono ?_; rintro e w' ⟨rfl, rfl⟩) | (go_at_call 28; refine (common_at s ⟨(dec k).toArray⟩ P c hm (by rw [hsz]; unfold maxLen; omega) hcm _).mono ?_; rintro e w' ⟨rfl, m2, rfl⟩) | (go_at_call 30; refine (broken_any s F _).mono ?_; rintro e w' ⟨rfl, rfl⟩))
                      try rw [Exit.noGoto_ret]
                      go_ret3
                      exact ⟨by rw [hpg3.out]; rfl, m + m2, by simp⟩
                  · have hpg2 : Hid (R = pgo s.data.toList (64 - (k + 1)) (A ||| onlyN k) (P + c + 1) (P + c + 1)) := hpg.out.trans (pgo_comma hlt hcc.out hno (hg.trans h44) (by omega))
                    have e3 : (((k : Int) == 63) : Bool) = false := by simp; omega
                    have hor := u64_or_nat A (onlyN k) hA (onlyN_lt k hlt)
                    have hA' := or_lt A k hA hlt
                    clear hpg hcc hno hg h44 h125
                    by_cases hmx : F < P + c
                    all_goals
                      go_wp2_with (first | (go_at_call 27; refine (itoa_any k (by omega) _).mono ?_; rintro e w' ⟨rfl, rfl⟩) | (go_at_call 28; refine (common_at s ⟨(dec k).toArray⟩ P c hm (by rw [hsz]; unfold maxLen; omega) hcm _).mono ?_; rintro e w' ⟨rfl, m2, rfl⟩) | (go_at_call 24; refine (only_any k hlt _).mono ?_; rintro e w' ⟨rfl, rfl⟩))
                      go_roundw
                      case rel => exact ⟨k + 1, A ||| onlyN k, P + c + 1, P + c + 1, m + m2, by omega, by go_num, rfl, by go_num, by go_num, hA', by omega, by omega, hpg2, by simp⟩
                      case measure => simp [intOf]; omega
                · have e2 : (((s[P + c].toNat : Int) == 44) : Bool) = false := u8_ne h44
                  have hpg2 : Hid (R = pgo s.data.toList (64 - (k + 1)) A P (max F (P + c))) := hpg.out.trans (pgo_other hlt hcc.out hno (by rw [hg]; exact h125) (by rw [hg]; exact h44))
                  clear hpg hcc hno hg h44 h125
                  by_cases hmx : F < P + c
                  · rw [Hid, Nat.max_eq_right (Nat.le_of_lt hmx)] at hpg2
                    have hpg3 : Hid _ := hpg2
                    clear hpg2
                    go_wp2_with (first | (go_at_call 27; refine (itoa_any k (by omega) _).mono ?_; rintro e w' ⟨rfl, rfl⟩) | (go_at_call 28; refine (common_at s ⟨(dec k).toArray⟩ P c hm (by rw [hsz]; unfold maxLen; omega) hcm _).mono ?_; rintro e w' ⟨rfl, m2, rfl⟩))
                    go_roundw
                    case rel => exact ⟨k + 1, A, P, P + c, m + m2, by omega, by go_num, rfl, rfl, by go_num, hA, hP, by omega, hpg3, by simp⟩
                    case measure => simp [intOf]; omega
                  · rw [Hid, Nat.max_eq_left (by omega)] at hpg2
                    have hpg3 : Hid _ := hpg2
                    clear hpg2
                    go_wp2_with (first | (go_at_call 27; refine (itoa_any k (by omega) _).mono ?_; rintro e w' ⟨rfl, rfl⟩) | (go_at_call 28; refine (common_at s ⟨(dec k).toArray⟩ P c hm (by rw [hsz]; unfold maxLen; omega) hcm _).mono ?_; rintro e w' ⟨rfl, m2, rfl⟩))
                    go_roundw
                    case rel => exact ⟨k + 1, A, P, F, m + m2, by omega, by go_num, rfl, rfl, rfl, hA, hP, hF, hpg3, by simp⟩
                    case measure => simp [intOf]; omega
        · obtain rfl : k = 64 := by omega
          have hpg2 : Hid (R = brokenL s.size F) := by rw [Hid, hpg.out, pgo_end, len_eq]
          clear hpg
          go_wp2_with (go_at_call 30; refine (broken_any s F _).mono ?_; rintro e w' ⟨rfl, rfl⟩)
          try rw [Exit.noGoto_ret]
          go_ret3
          exact ⟨by rw [hpg2.out]; rfl, m, rfl⟩
end Go.Proofs.YtjjhfmiegoohlaaDoor
