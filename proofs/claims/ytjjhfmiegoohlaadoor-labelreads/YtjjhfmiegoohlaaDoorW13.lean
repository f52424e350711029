/- The document's own begins and Begins. -/
import Derived.Test.YtjjhfmiegoohlaaDoorW11
import Derived.Test.YtjjhfmiegoohlaaDoorM6
import Derived.Lib.Strings
namespace Go.Proofs.YtjjhfmiegoohlaaDoor
open Go.RowKit

set_option maxRecDepth 100000 in
set_option maxHeartbeats 400000 in
theorem begins_any (t s : ByteArray) (_ht : t.size ≤ maxLen) (_hs : s.size ≤ maxLen) (w : World) :
    Calls Tryd.prog 34 #[.string t, .string s] w fun e w' => e = .returned (.bool (isPre t.data.toList s.data.toList)) ∧ w' = w := by
  unfold maxLen at _ht _hs
  by_cases h : s.size ≤ t.size
  · have h' : (s.size : Int) ≤ (t.size : Int) := by omega
    go_enter Tryd.func34, Tryd.ntmps34
    go_wp2
    go_ret
    refine ⟨ret_bool ?_, rfl⟩
    rw [Lib.extract_toList, Lib.toList_data]
    unfold isPre
    rw [decide_eq_true (by rw [len_eq, len_eq]; omega), len_eq]
    simp
  · have h' : decide ((s.size : Int) ≤ (t.size : Int)) = false := by simp; omega
    have e1 : isPre t.data.toList s.data.toList = false := by unfold isPre; rw [decide_eq_false (by rw [len_eq, len_eq]; omega)]; rfl
    rw [e1]
    go_enter Tryd.func34, Tryd.ntmps34
    go_wp2
    go_ret
    exact ⟨rfl, rfl⟩

/-- The three answers of Begins, as a call returns them. -/
def B3 (r : Bool × Bool × Nat) : Ending := .returned (.tuple #[.bool r.1, .bool r.2.1, .int .u64 r.2.2])

theorem str_eq (s : ByteArray) (l : List UInt8) : (s.toList == (⟨l.toArray⟩ : ByteArray).toList) = (s.data.toList == l) := by
  rw [Lib.toList_data, Lib.toList_data]

theorem size_pos (s : ByteArray) (h : s.data.toList ≠ []) : 0 < s.size := by
  have := List.length_pos_iff.2 h
  rw [len_eq] at this
  exact this
theorem isEmpty_no (s : ByteArray) (h : s.data.toList ≠ []) : s.toList.isEmpty = false := by
  rw [Lib.toList_data]
  cases hl : s.data.toList with
  | nil => exact absurd hl h
  | cons => rfl
theorem toList_no (s : ByteArray) (l : List UInt8) (h : s.data.toList ≠ l) : (s.toList == l) = false := by
  rw [Lib.toList_data]
  simpa using h
theorem toList_yes (s : ByteArray) (l : List UInt8) (h : s.data.toList = l) : (s.toList == l) = true := by
  rw [Lib.toList_data]
  simpa using h

set_option maxRecDepth 100000 in
set_option maxHeartbeats 1000000 in
theorem Begins_short (s : ByteArray) (_hs : s.size ≤ 140737488355328) (hsh : s.data.toList = [] ∨ s.data.toList.getD 0 0 ≠ 123 ∨ s.data.toList = [123] ∨ s.data.toList = [123, 125]) (w : World) :
    Calls Tryd.prog 31 #[.string s] w fun e w' => e = B3 (beginsL s.data.toList) ∧ w' = w := by
  by_cases h0 : s.data.toList = []
  · have e1 : beginsL s.data.toList = (true, false, 0) := by rw [h0]; rfl
    rw [e1]
    have hs0 : s = ⟨#[]⟩ := by
      apply ByteArray.ext
      simpa using h0
    subst hs0
    go_enter Tryd.func31, Tryd.ntmps31
    go_wp2
    go_ret3
    exact ⟨rfl, rfl⟩
  · have hz := size_pos s h0
    have hg := getD_eq s 0 hz
    have hem := isEmpty_no s h0
    have hz' : (0 : Int) < (s.size : Int) := by omega
    by_cases h1 : s.data.toList.getD 0 0 = 123
    · have hc : (((s[0].toNat : Int) != 123) : Bool) = false := by rw [← hg, h1]; rfl
      by_cases h2 : s.data.toList = [123]
      · have e1 : beginsL s.data.toList = (true, false, 0) := by rw [h2]; rfl
        rw [e1]
        have h3 := toList_yes s _ h2
        clear h1 h2 hg h0 e1 hsh
        go_enter Tryd.func31, Tryd.ntmps31
        go_wp2
        go_ret3
        exact ⟨rfl, rfl⟩
      · have h4 : s.data.toList = [123, 125] := by
          rcases hsh with h | h | h | h
          · exact absurd h h0
          · exact absurd h1 h
          · exact absurd h h2
          · exact h
        have e1 : beginsL s.data.toList = (true, true, 0) := by rw [h4]; rfl
        rw [e1]
        have h3 := toList_no s _ h2
        have h5 := toList_yes s _ h4
        clear h1 h2 hg h0 h4 e1 hsh
        go_enter Tryd.func31, Tryd.ntmps31
        go_wp2
        go_ret3
        exact ⟨rfl, rfl⟩
    · have hc : (((s[0].toNat : Int) != 123) : Bool) = true := by
        have : s[0] ≠ 123 := by rw [← hg]; exact h1
        have := u8_ne this
        simpa [bne] using this
      have e1 : beginsL s.data.toList = (false, false, 0) := by unfold beginsL; rw [if_neg h0, if_pos h1]
      rw [e1]
      clear h1 hg h0 e1 hsh
      go_enter Tryd.func31, Tryd.ntmps31
      go_wp2
      go_ret3
      exact ⟨rfl, rfl⟩

set_option maxRecDepth 100000 in
set_option maxHeartbeats 1000000 in
theorem Begins_long (s : ByteArray) (hs : s.size ≤ 140737488355328) (h0 : s.data.toList ≠ []) (h1 : s.data.toList.getD 0 0 = 123) (h2 : s.data.toList ≠ [123]) (h3 : s.data.toList ≠ [123, 125]) (w : World) :
    Calls Tryd.prog 31 #[.string s] w fun e w' => e = B3 (beginsL s.data.toList) ∧ w' = w := by
  have hz := size_pos s h0
  have hg := getD_eq s 0 hz
  have hem := isEmpty_no s h0
  have hz' : (0 : Int) < (s.size : Int) := by omega
  have hc : (((s[0].toNat : Int) != 123) : Bool) = false := by rw [← hg, h1]; rfl
  have h4 := toList_no s _ h2
  have h5 := toList_no s _ h3
  have hz2 : 1 < s.size := by
    rcases Nat.lt_or_ge 1 s.size with h | h
    · exact h
    · exfalso
      apply h2
      have hl : s.data.toList.length = 1 := by rw [len_eq]; omega
      obtain ⟨x, hx⟩ := List.length_eq_one_iff.1 hl
      rw [hx] at h1 ⊢
      simp at h1
      rw [h1]
  have e1 : beginsL s.data.toList = bg 64 64 (s.data.toList.drop 1) 0 := by unfold beginsL; rw [if_neg h0, if_neg (by simpa using h1), if_neg h2, if_neg h3]
  obtain ⟨R, hR⟩ : ∃ R, Hid (R = bg 64 64 (s.data.toList.drop 1) 0) := ⟨_, rfl⟩
  rw [e1, ← hR.out]
  clear e1 h0 h1 h2 h3 hg
  go_enter Tryd.func31, Tryd.ntmps31
  go_wp2
  clear hem hc h4 h5 hz'
  go_loop [5, 6, 7] (fun a l p => ∃ A m P q : Nat, m ≤ 63 ∧ 64 - m ≤ q ∧ a = .int .u64 A ∧ l = .int .i64 ((m : Int) - 1) ∧ p = .int .i64 P ∧ A < 18446744073709551616 ∧ P < s.size ∧ Hid (R = bg q (64 - m) (s.data.toList.drop P) A)) (fun _ _ p => s.size - (intOf p).toNat)
  case atStart => exact ⟨0, 0, 1, 64, by omega, by omega, rfl, rfl, rfl, by omega, hz2, hR⟩
  case round =>
    obtain ⟨A, m, P, q, hm, hq, rfl, rfl, rfl, hA, hP, hbg⟩ := hrel
    clear hR hz2
    have hP' : (P : Int) ≤ (s.size : Int) := by omega
    go_wp2
    obtain ⟨r, hr⟩ : ∃ r, Hid (s.extract P s.size = r) := ⟨_, rfl⟩
    rw [hr.out]
    have hrd : Hid (r.data.toList = s.data.toList.drop P) := by
      rw [Hid, ← hr.out, Lib.extract_data, List.take_of_length_le (by rw [List.length_drop, len_eq]; omega)]
    have hrs : Hid (r.size = s.size - P) := by
      rw [Hid, ← len_eq, hrd.out, List.length_drop, len_eq]
    have hrz : r.size + P ≤ s.size ∧ s.size ≤ r.size + P := by have := hrs.out; omega
    obtain ⟨qq, hq1⟩ : ∃ qq, Hid (q = qq + 1) := ⟨q - 1, by rw [Hid]; omega⟩
    rw [← hrd.out] at hbg
    obtain ⟨d, hd⟩ : ∃ d, Hid (ndig r.data.toList = d) := ⟨_, rfl⟩
    have hdle : d ≤ r.size := by have := ndig_le r.data.toList; rw [hd.out, len_eq] at this; exact this
    go_loop [9] (fun i => ∃ k : Nat, k ≤ d ∧ i = .int .i64 k) (fun i => r.size - (intOf i).toNat)
    case atStart => exact ⟨0, by omega, rfl⟩
    case round =>
      obtain ⟨k, hk, rfl⟩ := hrel
      have hk0 : (0 : Int) ≤ (k : Int) := by omega
      by_cases hkd : k < d
      · have hkr : k < r.size := by omega
        have hkr' : (k : Int) < (r.size : Int) := by omega
        have hdg := ndig_at r.data.toList k (by rw [hd.out]; exact hkd)
        rw [getD_eq r k hkr] at hdg
        simp only [isDig, Bool.and_eq_true, decide_eq_true_eq] at hdg
        have g1 : (48 : Int) ≤ (r[k].toNat : Int) := by omega
        have g2 : (r[k].toNat : Int) ≤ 57 := by omega
        clear hdg
        go_wp2
        go_round
        case rel => exact ⟨k + 1, by omega, by go_num⟩
        case measure => simp [intOf]; omega
      · have hkd' : k = d := by omega
        rw [hkd']
        rw [hkd'] at hk0
        clear hk hkd hkd' k
        by_cases hds : d = r.size
        · have hdn : (((d : Int) == (r.size : Int)) : Bool) = true := by rw [beq_iff_eq]; omega
          have hdl' : decide ((d : Int) < (r.size : Int)) = false := by simp; omega
          have hR2 : Hid (R = (anyP r.data.toList (64 - m), false, 0)) := by
            rw [Hid, hbg.out, hq1.out]; exact bg_end _ _ _ _ (by rw [hd.out, len_eq]; exact hds)
          have hwl : Hid ((r.extract 0 d).data.toList = r.data.toList) := by
            rw [Hid, Lib.extract_data, List.drop_zero, List.take_of_length_le (by rw [len_eq]; omega)]
          have hdd : r.size ≤ d := by omega
          clear hds
          go_wp2
          obtain ⟨wd, hwd⟩ : ∃ wd, Hid (r.extract 0 d = wd) := ⟨_, rfl⟩
          rw [hwd.out]
          rw [hwd.out] at hwl
          have hws : wd.size ≤ maxLen := by rw [← len_eq, hwl.out, len_eq]; unfold maxLen; omega
          go_loop [11] (fun i => ∃ j : Nat, m ≤ j ∧ j ≤ 64 ∧ i = .int .i64 j ∧ Hid (R = (anyP r.data.toList (64 - j), false, 0))) (fun i => 64 - (intOf i).toNat)
          case atStart => exact ⟨m, Nat.le_refl _, by omega, by go_num, hR2⟩
          case round =>
            obtain ⟨j, hj1, hj2, rfl, hx⟩ := hrel
            clear hR2
            by_cases hj : j < 64
            · have hsz : (⟨(dec j).toArray⟩ : ByteArray).size ≤ maxLen := by have := dec_len j; simp [ByteArray.size]; unfold maxLen; omega
              have hst := anyP_step r.data.toList j hj
              have hba : ∀ w : World, Calls Tryd.prog 34 #[.string ⟨(dec j).toArray⟩, .string wd] w fun e w' => e = .returned (.bool (isPre (dec j) r.data.toList)) ∧ w' = w := by
                intro w0
                have := begins_any ⟨(dec j).toArray⟩ wd hsz hws w0
                rw [hwl.out] at this
                exact this
              have HB : Hid _ := hba
              clear hba
              cases hp : isPre (dec j) r.data.toList
              · rw [hp] at hst HB
                have hR3 : Hid (R = (anyP r.data.toList (64 - (j + 1)), false, 0)) := by rw [Hid, hx.out, hst]; rfl
                clear hst hp
                go_wp2_with (first | (go_at_call 27; refine (itoa_any j (by omega) _).mono ?_; rintro e w' ⟨rfl, rfl⟩) | (go_at_call 34; refine (HB.out _).mono ?_; rintro e w' ⟨rfl, rfl⟩))
                go_round
                case rel => exact ⟨j + 1, by omega, by omega, by go_num, hR3⟩
                case measure => simp [intOf]; omega
              · rw [hp] at hst HB
                have hR3 : Hid (R = (true, false, 0)) := by rw [Hid, hx.out, hst]; rfl
                clear hst hp
                go_wp2_with (first | (go_at_call 27; refine (itoa_any j (by omega) _).mono ?_; rintro e w' ⟨rfl, rfl⟩) | (go_at_call 34; refine (HB.out _).mono ?_; rintro e w' ⟨rfl, rfl⟩))
                go_ret3
                exact ⟨by rw [hR3.out]; rfl, rfl⟩
            · obtain rfl : j = 64 := by omega
              go_wp2
              go_ret3
              exact ⟨by rw [hx.out]; rfl, rfl⟩
        · have hdl : d < r.size := by omega
          have hdl' : (d : Int) < (r.size : Int) := by omega
          have hdn : (((d : Int) == (r.size : Int)) : Bool) = false := by rw [beq_eq_false_iff_ne]; omega
          have hst := ndig_stop r.data.toList (by rw [hd.out, len_eq]; exact hdl)
          rw [hd.out, getD_eq r d hdl] at hst
          by_cases h125 : r[d] = 125
          · have hch : Hid (r[d] = 125) := h125
            have g1 : (48 : Int) ≤ (r[d].toNat : Int) := by rw [h125]; decide
            have g2 : decide ((r[d].toNat : Int) ≤ 57) = false := by rw [h125]; decide
            have g3 : (((r[d].toNat : Int) == 125) : Bool) = true := by rw [h125]; rfl
            clear hst h125
            go_wp2
            obtain ⟨wd, hwd⟩ : ∃ wd, Hid (r.extract 0 d = wd) := ⟨_, rfl⟩
            rw [hwd.out]
            have hwl : wd.data.toList = r.data.toList.take d := by rw [← hwd.out, Lib.extract_data]; simp
            have HW : Hid _ := hwl
            clear hwl
            go_loop [12, 13] (fun x i => ∃ j : Nat, m ≤ j ∧ j ≤ 64 ∧ i = .int .i64 j ∧ ((x = .int .i64 (-1) ∧ Hid (∀ t, m ≤ t → t < j → dec t ≠ wd.data.toList)) ∨ (∃ n : Nat, m ≤ n ∧ n < j ∧ x = .int .i64 n ∧ Hid (dec n = wd.data.toList)))) (fun _ i => 64 - (intOf i).toNat)
            case atStart => exact ⟨m, Nat.le_refl _, by omega, by go_num, .inl ⟨rfl, fun t h1 h2 => by omega⟩⟩
            case round =>
              obtain ⟨j, hj1, hj2, rfl, hx⟩ := hrel
              by_cases hj : j < 64
              · by_cases he : dec j = wd.data.toList
                · have hcmp : (dec j == wd.toList) = true := by rw [Lib.toList_data]; simpa using he
                  have HE : Hid _ := he
                  clear he
                  go_wp2_with (go_at_call 27; refine (itoa_any j (by omega) _).mono ?_; rintro e w' ⟨rfl, rfl⟩)
                  go_round
                  case rel => exact ⟨j + 1, by omega, by omega, by go_num, .inr ⟨j, hj1, by omega, rfl, HE⟩⟩
                  case measure => simp [intOf]; omega
                · have hcmp : (dec j == wd.toList) = false := by rw [Lib.toList_data]; simpa using he
                  have HE : Hid _ := he
                  clear he
                  go_wp2_with (go_at_call 27; refine (itoa_any j (by omega) _).mono ?_; rintro e w' ⟨rfl, rfl⟩)
                  go_round
                  case rel =>
                    refine ⟨j + 1, by omega, by omega, by go_num, ?_⟩
                    rcases hx with ⟨h1, h2⟩ | ⟨n, h1, h2, h3, h4⟩
                    · refine .inl ⟨h1, fun t k1 k2 => ?_⟩
                      by_cases e : t = j
                      · rw [e]; exact HE
                      · exact h2 t k1 (by omega)
                    · exact .inr ⟨n, h1, by omega, h3, h4⟩
                  case measure => simp [intOf]; omega
              · obtain rfl : j = 64 := by omega
                rcases hx with ⟨rfl, hall⟩ | ⟨n, hn1, hn2, rfl, hdn⟩
                · have hf : fnd (r.data.toList.take d) (64 - m) = none := by
                    rw [← HW.out]; exact fnd_no _ _ (by omega) (fun t k1 k2 => hall t (by omega) k2)
                  have hR2 : Hid (R = (false, false, 0)) := by
                    rw [Hid, hbg.out, hq1.out]; exact bg_none _ _ _ _ (by rw [hd.out, len_eq]; exact hds) (by rw [hd.out]; exact hf)
                  clear hf hall
                  go_wp2
                  go_ret3
                  exact ⟨by rw [hR2.out]; rfl, rfl⟩
                · have hf : fnd (r.data.toList.take d) (64 - m) = some n := by
                    rw [← HW.out, ← hdn.out]; exact fnd_dec n hn2 _ (by omega) (by omega)
                  have HF : Hid _ := hf
                  have e1 := wrap_pow n hn2
                  have e2 := u64_or_nat A (onlyN n) hA (onlyN_lt n hn2)
                  have hA' := or_lt A n hA hn2
                  have hn0 : decide ((n : Int) < 0) = false := by simp
                  clear hf hdn
                  have hR2 : Hid (R = (decide (d + 1 = r.size), decide (d + 1 = r.size), A ||| onlyN n)) := by
                    have := bg_close qq (64 - m) A r.data.toList n (by rw [hd.out, len_eq]; exact hds) (by rw [hd.out]; exact HF) (by rw [hd.out, getD_eq r d hdl]; exact hch.out)
                    rw [hd.out, len_eq] at this
                    rw [Hid, hbg.out, hq1.out]; exact this
                  have e3 : (((P : Int) + ((d : Int) + 1) == (s.size : Int)) : Bool) = decide (d + 1 = r.size) := by
                    rw [Bool.eq_iff_iff, beq_iff_eq, decide_eq_true_eq]; omega
                  go_wp2
                  go_ret3
                  exact ⟨by rw [hR2.out]; rfl, rfl⟩
          · by_cases h44 : r[d] = 44
            · have hch : Hid (r[d] = 44) := h44
              have g1 : decide ((48 : Int) ≤ (r[d].toNat : Int)) = false := by rw [h44]; decide
              have g3 : (((r[d].toNat : Int) == 125) : Bool) = false := by rw [h44]; rfl
              have g4 : (((r[d].toNat : Int) == 44) : Bool) = true := by rw [h44]; rfl
              clear hst h125 h44
              go_wp2
              obtain ⟨wd, hwd⟩ : ∃ wd, Hid (r.extract 0 d = wd) := ⟨_, rfl⟩
              rw [hwd.out]
              have hwl : wd.data.toList = r.data.toList.take d := by rw [← hwd.out, Lib.extract_data]; simp
              have HW : Hid _ := hwl
              clear hwl
              go_loop [12, 13] (fun x i => ∃ j : Nat, m ≤ j ∧ j ≤ 64 ∧ i = .int .i64 j ∧ ((x = .int .i64 (-1) ∧ Hid (∀ t, m ≤ t → t < j → dec t ≠ wd.data.toList)) ∨ (∃ n : Nat, m ≤ n ∧ n < j ∧ x = .int .i64 n ∧ Hid (dec n = wd.data.toList)))) (fun _ i => 64 - (intOf i).toNat)
              case atStart => exact ⟨m, Nat.le_refl _, by omega, by go_num, .inl ⟨rfl, fun t h1 h2 => by omega⟩⟩
              case round =>
                obtain ⟨j, hj1, hj2, rfl, hx⟩ := hrel
                by_cases hj : j < 64
                · by_cases he : dec j = wd.data.toList
                  · have hcmp : (dec j == wd.toList) = true := by rw [Lib.toList_data]; simpa using he
                    have HE : Hid _ := he
                    clear he
                    go_wp2_with (go_at_call 27; refine (itoa_any j (by omega) _).mono ?_; rintro e w' ⟨rfl, rfl⟩)
                    go_round
                    case rel => exact ⟨j + 1, by omega, by omega, by go_num, .inr ⟨j, hj1, by omega, rfl, HE⟩⟩
                    case measure => simp [intOf]; omega
                  · have hcmp : (dec j == wd.toList) = false := by rw [Lib.toList_data]; simpa using he
                    have HE : Hid _ := he
                    clear he
                    go_wp2_with (go_at_call 27; refine (itoa_any j (by omega) _).mono ?_; rintro e w' ⟨rfl, rfl⟩)
                    go_round
                    case rel =>
                      refine ⟨j + 1, by omega, by omega, by go_num, ?_⟩
                      rcases hx with ⟨h1, h2⟩ | ⟨n, h1, h2, h3, h4⟩
                      · refine .inl ⟨h1, fun t k1 k2 => ?_⟩
                        by_cases e : t = j
                        · rw [e]; exact HE
                        · exact h2 t k1 (by omega)
                      · exact .inr ⟨n, h1, by omega, h3, h4⟩
                    case measure => simp [intOf]; omega
                · obtain rfl : j = 64 := by omega
                  rcases hx with ⟨rfl, hall⟩ | ⟨n, hn1, hn2, rfl, hdn⟩
                  · have hf : fnd (r.data.toList.take d) (64 - m) = none := by
                      rw [← HW.out]; exact fnd_no _ _ (by omega) (fun t k1 k2 => hall t (by omega) k2)
                    have hR2 : Hid (R = (false, false, 0)) := by
                      rw [Hid, hbg.out, hq1.out]; exact bg_none _ _ _ _ (by rw [hd.out, len_eq]; exact hds) (by rw [hd.out]; exact hf)
                    clear hf hall
                    go_wp2
                    go_ret3
                    exact ⟨by rw [hR2.out]; rfl, rfl⟩
                  · have hf : fnd (r.data.toList.take d) (64 - m) = some n := by
                      rw [← HW.out, ← hdn.out]; exact fnd_dec n hn2 _ (by omega) (by omega)
                    have HF : Hid _ := hf
                    have e1 := wrap_pow n hn2
                    have e2 := u64_or_nat A (onlyN n) hA (onlyN_lt n hn2)
                    have hA' := or_lt A n hA hn2
                    have hn0 : decide ((n : Int) < 0) = false := by simp
                    clear hf hdn
                    by_cases h63 : n = 63
                    · have hR2 : Hid (R = (false, false, 0)) := by
                        rw [Hid, hbg.out, hq1.out]
                        exact bg_last _ _ _ _ (by rw [hd.out, len_eq]; exact hds) (by rw [hd.out, ← h63]; exact HF) (by rw [hd.out, getD_eq r d hdl]; exact hch.out)
                      have e3 : (((n : Int) == 63) : Bool) = true := by simp; omega
                      clear h63
                      go_wp2
                      go_ret3
                      exact ⟨by rw [hR2.out]; rfl, rfl⟩
                    · have e3 : (((n : Int) == 63) : Bool) = false := by simp; omega
                      by_cases hend : d + 1 = r.size
                      · have hR2 : Hid (R = (true, false, 0)) := by
                          rw [Hid, hbg.out, hq1.out]
                          exact bg_stop _ _ _ _ n (by rw [hd.out, len_eq]; exact hds) (by rw [hd.out]; exact HF) (by rw [hd.out, getD_eq r d hdl]; exact hch.out) h63 (by rw [hd.out, len_eq]; exact hend)
                        have e4 : (((P : Int) + ((d : Int) + 1) == (s.size : Int)) : Bool) = true := by rw [beq_iff_eq]; omega
                        clear hend
                        go_wp2
                        go_ret3
                        exact ⟨by rw [hR2.out]; rfl, rfl⟩
                      · have hR2 : Hid (R = bg qq (64 - (n + 1)) (s.data.toList.drop (P + d + 1)) (A ||| onlyN n)) := by
                          have := bg_comma qq (64 - m) A r.data.toList n (by rw [hd.out, len_eq]; exact hds) (by rw [hd.out]; exact HF) (by rw [hd.out, getD_eq r d hdl]; exact hch.out) h63 (by rw [hd.out, len_eq]; exact hend)
                          rw [hd.out, hrd.out, List.drop_drop] at this
                          rw [Hid, hbg.out, hq1.out, hrd.out, this, show 63 - n = 64 - (n + 1) by omega, show P + (d + 1) = P + d + 1 by omega]
                        have e4 : (((P : Int) + ((d : Int) + 1) == (s.size : Int)) : Bool) = false := by rw [beq_eq_false_iff_ne]; omega
                        go_wp2
                        go_round
                        case rel => exact ⟨A ||| onlyN n, n + 1, P + d + 1, qq, by omega, by have := hq1.out; omega, rfl, by go_num, by go_num, hA', by omega, hR2⟩
                        case measure => simp [intOf]; omega
            · have H125 : Hid (r[d] ≠ 125) := h125
              have H44 : Hid (r[d] ≠ 44) := h44
              have g3 : (((r[d].toNat : Int) == 125) : Bool) = false := u8_ne h125
              have g4 : (((r[d].toNat : Int) == 44) : Bool) = false := u8_ne h44
              have hb : ¬ (48 ≤ r[d].toNat ∧ r[d].toNat ≤ 57) := by simpa [isDig] using hst
              clear hst h125 h44
              by_cases hlo : 48 ≤ r[d].toNat
              · have g1 : (48 : Int) ≤ (r[d].toNat : Int) := by omega
                have g2 : decide ((r[d].toNat : Int) ≤ 57) = false := by simp; omega
                clear hb hlo
                go_wp2
                obtain ⟨wd, hwd⟩ : ∃ wd, Hid (r.extract 0 d = wd) := ⟨_, rfl⟩
                rw [hwd.out]
                have hwl : wd.data.toList = r.data.toList.take d := by rw [← hwd.out, Lib.extract_data]; simp
                have HW : Hid _ := hwl
                clear hwl
                go_loop [12, 13] (fun x i => ∃ j : Nat, m ≤ j ∧ j ≤ 64 ∧ i = .int .i64 j ∧ ((x = .int .i64 (-1) ∧ Hid (∀ t, m ≤ t → t < j → dec t ≠ wd.data.toList)) ∨ (∃ n : Nat, m ≤ n ∧ n < j ∧ x = .int .i64 n ∧ Hid (dec n = wd.data.toList)))) (fun _ i => 64 - (intOf i).toNat)
                case atStart => exact ⟨m, Nat.le_refl _, by omega, by go_num, .inl ⟨rfl, fun t h1 h2 => by omega⟩⟩
                case round =>
                  obtain ⟨j, hj1, hj2, rfl, hx⟩ := hrel
                  by_cases hj : j < 64
                  · by_cases he : dec j = wd.data.toList
                    · have hcmp : (dec j == wd.toList) = true := by rw [Lib.toList_data]; simpa using he
                      have HE : Hid _ := he
                      clear he
                      go_wp2_with (go_at_call 27; refine (itoa_any j (by omega) _).mono ?_; rintro e w' ⟨rfl, rfl⟩)
                      go_round
                      case rel => exact ⟨j + 1, by omega, by omega, by go_num, .inr ⟨j, hj1, by omega, rfl, HE⟩⟩
                      case measure => simp [intOf]; omega
                    · have hcmp : (dec j == wd.toList) = false := by rw [Lib.toList_data]; simpa using he
                      have HE : Hid _ := he
                      clear he
                      go_wp2_with (go_at_call 27; refine (itoa_any j (by omega) _).mono ?_; rintro e w' ⟨rfl, rfl⟩)
                      go_round
                      case rel =>
                        refine ⟨j + 1, by omega, by omega, by go_num, ?_⟩
                        rcases hx with ⟨h1, h2⟩ | ⟨n, h1, h2, h3, h4⟩
                        · refine .inl ⟨h1, fun t k1 k2 => ?_⟩
                          by_cases e : t = j
                          · rw [e]; exact HE
                          · exact h2 t k1 (by omega)
                        · exact .inr ⟨n, h1, by omega, h3, h4⟩
                      case measure => simp [intOf]; omega
                  · obtain rfl : j = 64 := by omega
                    rcases hx with ⟨rfl, hall⟩ | ⟨n, hn1, hn2, rfl, hdn⟩
                    · have hf : fnd (r.data.toList.take d) (64 - m) = none := by
                        rw [← HW.out]; exact fnd_no _ _ (by omega) (fun t k1 k2 => hall t (by omega) k2)
                      have hR2 : Hid (R = (false, false, 0)) := by
                        rw [Hid, hbg.out, hq1.out]; exact bg_none _ _ _ _ (by rw [hd.out, len_eq]; exact hds) (by rw [hd.out]; exact hf)
                      clear hf hall
                      go_wp2
                      go_ret3
                      exact ⟨by rw [hR2.out]; rfl, rfl⟩
                    · have hf : fnd (r.data.toList.take d) (64 - m) = some n := by
                        rw [← HW.out, ← hdn.out]; exact fnd_dec n hn2 _ (by omega) (by omega)
                      have HF : Hid _ := hf
                      have e1 := wrap_pow n hn2
                      have e2 := u64_or_nat A (onlyN n) hA (onlyN_lt n hn2)
                      have hA' := or_lt A n hA hn2
                      have hn0 : decide ((n : Int) < 0) = false := by simp
                      clear hf hdn
                      have hR2 : Hid (R = (false, false, 0)) := by
                        rw [Hid, hbg.out, hq1.out]
                        exact bg_other _ _ _ _ n (by rw [hd.out, len_eq]; exact hds) (by rw [hd.out]; exact HF) (by rw [hd.out, getD_eq r d hdl]; exact H125.out) (by rw [hd.out, getD_eq r d hdl]; exact H44.out)
                      go_wp2
                      go_ret3
                      exact ⟨by rw [hR2.out]; rfl, rfl⟩
              · have g1 : decide ((48 : Int) ≤ (r[d].toNat : Int)) = false := by simp; omega
                clear hb hlo
                go_wp2
                obtain ⟨wd, hwd⟩ : ∃ wd, Hid (r.extract 0 d = wd) := ⟨_, rfl⟩
                rw [hwd.out]
                have hwl : wd.data.toList = r.data.toList.take d := by rw [← hwd.out, Lib.extract_data]; simp
                have HW : Hid _ := hwl
                clear hwl
                go_loop [12, 13] (fun x i => ∃ j : Nat, m ≤ j ∧ j ≤ 64 ∧ i = .int .i64 j ∧ ((x = .int .i64 (-1) ∧ Hid (∀ t, m ≤ t → t < j → dec t ≠ wd.data.toList)) ∨ (∃ n : Nat, m ≤ n ∧ n < j ∧ x = .int .i64 n ∧ Hid (dec n = wd.data.toList)))) (fun _ i => 64 - (intOf i).toNat)
                case atStart => exact ⟨m, Nat.le_refl _, by omega, by go_num, .inl ⟨rfl, fun t h1 h2 => by omega⟩⟩
                case round =>
                  obtain ⟨j, hj1, hj2, rfl, hx⟩ := hrel
                  by_cases hj : j < 64
                  · by_cases he : dec j = wd.data.toList
                    · have hcmp : (dec j == wd.toList) = true := by rw [Lib.toList_data]; simpa using he
                      have HE : Hid _ := he
                      clear he
                      go_wp2_with (go_at_call 27; refine (itoa_any j (by omega) _).mono ?_; rintro e w' ⟨rfl, rfl⟩)
                      go_round
                      case rel => exact ⟨j + 1, by omega, by omega, by go_num, .inr ⟨j, hj1, by omega, rfl, HE⟩⟩
                      case measure => simp [intOf]; omega
                    · have hcmp : (dec j == wd.toList) = false := by rw [Lib.toList_data]; simpa using he
                      have HE : Hid _ := he
                      clear he
                      go_wp2_with (go_at_call 27; refine (itoa_any j (by omega) _).mono ?_; rintro e w' ⟨rfl, rfl⟩)
                      go_round
                      case rel =>
                        refine ⟨j + 1, by omega, by omega, by go_num, ?_⟩
                        rcases hx with ⟨h1, h2⟩ | ⟨n, h1, h2, h3, h4⟩
                        · refine .inl ⟨h1, fun t k1 k2 => ?_⟩
                          by_cases e : t = j
                          · rw [e]; exact HE
                          · exact h2 t k1 (by omega)
                        · exact .inr ⟨n, h1, by omega, h3, h4⟩
                      case measure => simp [intOf]; omega
                  · obtain rfl : j = 64 := by omega
                    rcases hx with ⟨rfl, hall⟩ | ⟨n, hn1, hn2, rfl, hdn⟩
                    · have hf : fnd (r.data.toList.take d) (64 - m) = none := by
                        rw [← HW.out]; exact fnd_no _ _ (by omega) (fun t k1 k2 => hall t (by omega) k2)
                      have hR2 : Hid (R = (false, false, 0)) := by
                        rw [Hid, hbg.out, hq1.out]; exact bg_none _ _ _ _ (by rw [hd.out, len_eq]; exact hds) (by rw [hd.out]; exact hf)
                      clear hf hall
                      go_wp2
                      go_ret3
                      exact ⟨by rw [hR2.out]; rfl, rfl⟩
                    · have hf : fnd (r.data.toList.take d) (64 - m) = some n := by
                        rw [← HW.out, ← hdn.out]; exact fnd_dec n hn2 _ (by omega) (by omega)
                      have HF : Hid _ := hf
                      have e1 := wrap_pow n hn2
                      have e2 := u64_or_nat A (onlyN n) hA (onlyN_lt n hn2)
                      have hA' := or_lt A n hA hn2
                      have hn0 : decide ((n : Int) < 0) = false := by simp
                      clear hf hdn
                      have hR2 : Hid (R = (false, false, 0)) := by
                        rw [Hid, hbg.out, hq1.out]
                        exact bg_other _ _ _ _ n (by rw [hd.out, len_eq]; exact hds) (by rw [hd.out]; exact HF) (by rw [hd.out, getD_eq r d hdl]; exact H125.out) (by rw [hd.out, getD_eq r d hdl]; exact H44.out)
                      go_wp2
                      go_ret3
                      exact ⟨by rw [hR2.out]; rfl, rfl⟩
end Go.Proofs.YtjjhfmiegoohlaaDoor
