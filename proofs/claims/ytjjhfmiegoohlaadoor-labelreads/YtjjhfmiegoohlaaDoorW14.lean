/- The document's own Parse; LabelReads. -/
import Derived.Test.YtjjhfmiegoohlaaDoorW13
namespace Go.Proofs.YtjjhfmiegoohlaaDoor
open Go.RowKit

theorem Begins_any (s : ByteArray) (hs : s.size ≤ 140737488355328) (w : World) :
    Calls Tryd.prog 31 #[.string s] w fun e w' => e = B3 (beginsL s.data.toList) ∧ w' = w := by
  by_cases h0 : s.data.toList = []
  · exact Begins_short s hs (.inl h0) w
  by_cases h1 : s.data.toList.getD 0 0 = 123
  · by_cases h2 : s.data.toList = [123]
    · exact Begins_short s hs (.inr (.inr (.inl h2))) w
    by_cases h3 : s.data.toList = [123, 125]
    · exact Begins_short s hs (.inr (.inr (.inr h3))) w
    exact Begins_long s hs h0 h1 h2 h3 w
  · exact Begins_short s hs (.inr (.inl h1)) w

theorem Begins_at (s : ByteArray) (hs : s.size ≤ 140737488355328) (p : Nat) (b1 b2 : Bool) (a : Nat) (h : Hid (beginsL (s.data.toList.take p) = (b1, b2, a))) (w : World) :
    Calls Tryd.prog 31 #[.string (s.extract 0 p)] w fun e w' => e = .returned (.tuple #[.bool b1, .bool b2, .int .u64 a]) ∧ w' = w := by
  have e1 : (s.extract 0 p).data.toList = s.data.toList.take p := by rw [Lib.extract_data]; simp
  have := Begins_any (s.extract 0 p) (by rw [← len_eq, e1, List.length_take, len_eq]; omega) w
  rw [e1, h.out] at this
  exact this

set_option maxRecDepth 100000 in
set_option maxHeartbeats 1000000 in
theorem rparse_any (s : ByteArray) (hs : s.size ≤ 140737488355328) (w : World) :
    Calls Tryd.prog 22 #[.string s] w fun e w' => e = R3 (parseL s.data.toList) ∧ w' = w := by
  have hbt := begins_top s.data.toList
  have htl := top_le s.data.toList
  rw [len_eq] at htl hbt
  have e1 := parse_top s.data.toList
  rw [len_eq] at e1
  obtain ⟨F, hF⟩ : ∃ F, Hid ((top s.data.toList).1 = F) := ⟨_, rfl⟩
  obtain ⟨o, ho⟩ : ∃ o, Hid ((top s.data.toList).2 = o) := ⟨_, rfl⟩
  have e2 : parseL s.data.toList = answer s.size (F, o) := by rw [e1, ← hF.out, ← ho.out]
  rw [e2]
  rw [hF.out] at htl
  obtain ⟨h1, h2⟩ := htl
  have HB : Hid (∀ p, p ≤ s.size → ∃ b2 a, Hid (beginsL (s.data.toList.take p) = (decide (p ≤ F), b2, a)) ∧ b2 = (decide (p = F) && o.isSome) ∧ (b2 = true → a = o.getD 0)) := by
    intro p hp
    have := hbt p hp
    rw [hF.out, ho.out] at this
    refine ⟨_, _, Prod.ext this.1 rfl, this.2.1, this.2.2⟩
  clear hbt e1 e2 hF ho
  go_enter Tryd.func22, Tryd.ntmps22
  go_wp2
  go_loop [5] (fun i => ∃ k : Nat, k ≤ F ∧ i = .int .i64 k) (fun i => s.size - (intOf i).toNat)
  case atStart => exact ⟨0, by omega, rfl⟩
  case round =>
    obtain ⟨k, hk, rfl⟩ := hrel
    by_cases hlt : k < s.size
    · have hlt' : (k : Int) < (s.size : Int) := by omega
      obtain ⟨b2, a, hv, -, -⟩ := HB.out (k + 1) (by omega)
      by_cases hF : k + 1 ≤ F
      · rw [decide_eq_true hF] at hv
        go_wp2_with (go_at_call 31; refine (Begins_at s hs (k + 1) true b2 a hv _).mono ?_; rintro e w' ⟨rfl, rfl⟩)
        go_round
        case rel => exact ⟨k + 1, hF, by go_num⟩
        case measure => simp [intOf]; omega
      · rw [decide_eq_false hF] at hv
        have hkF : k = F := by omega
        rw [hkF] at hv hlt hlt'
        rw [hkF]
        clear hk hF hkF
        obtain ⟨b3, a3, hv3, hb3, ha3⟩ := HB.out F h1
        rw [decide_eq_true (Nat.le_refl F)] at hv3
        rw [decide_eq_true rfl, Bool.true_and] at hb3
        go_wp2_with fail
        refine (Begins_at s hs (F + 1) false b2 a hv _).mono ?_
        rintro e w' ⟨rfl, rfl⟩
        clear hv
        go_wp2_with fail
        refine (Begins_at s hs F true b3 a3 hv3 _).mono ?_
        rintro e w' ⟨rfl, rfl⟩
        have hne : (((F : Int) == (s.size : Int)) : Bool) = false := by rw [beq_eq_false_iff_ne]; omega
        cases o with
        | none =>
          have hb : b3 = false := by simpa using hb3
          subst hb
          have hans : Hid (answer s.size (F, none) = (0, 4, F)) := by rw [Hid, answer]; simp only [brokenL]; rw [if_neg (by omega)]
          clear hb3 ha3 HB
          go_wp2
          go_ret3
          exact ⟨by rw [hans.out]; rfl, rfl⟩
        | some x =>
          have hb : b3 = true := by simpa using hb3
          subst hb
          have hans : Hid (answer s.size (F, some x) = (0, 6, F)) := by rw [Hid, answer]; simp only [closedL]; rw [if_pos (by omega)]
          clear hb3 ha3 HB
          go_wp2
          go_ret3
          exact ⟨by rw [hans.out]; rfl, rfl⟩
    · have hkF : k = F := by omega
      have hlt' : decide ((F : Int) < (s.size : Int)) = false := by simp; omega
      rw [hkF]
      have hFs : F = s.size := by omega
      have HFs : Hid _ := hFs
      have hge : s.size ≤ F := by omega
      clear hFs
      obtain ⟨b3, a3, hv3, hb3, ha3⟩ := HB.out F h1
      rw [decide_eq_true (Nat.le_refl F)] at hv3
      rw [decide_eq_true rfl, Bool.true_and] at hb3
      have hne : (((F : Int) == (s.size : Int)) : Bool) = true := by rw [beq_iff_eq]; have := HFs.out; omega
      clear hk hkF
      cases o with
      | none =>
        have hb : b3 = false := by simpa using hb3
        subst hb
        have hans : Hid (answer s.size (F, none) = (0, 5, F)) := by rw [Hid, answer]; simp only [brokenL]; rw [if_pos HFs.out]
        clear hb3 ha3 HB
        go_wp2_with (go_at_call 31; refine (Begins_at s hs F true false a3 hv3 _).mono ?_; rintro e w' ⟨rfl, rfl⟩)
        go_ret3
        exact ⟨by rw [hans.out]; rfl, rfl⟩
      | some x =>
        have hb : b3 = true := by simpa using hb3
        subst hb
        have hans : Hid (answer s.size (F, some x) = (x, 0, 0)) := by rw [Hid, answer]; simp only [closedL]; rw [if_neg (by have := HFs.out; omega)]
        have hax : a3 = x := by simpa using ha3 rfl
        subst hax
        clear hb3 ha3 HB
        go_wp2_with (go_at_call 31; refine (Begins_at s hs F true true a3 hv3 _).mono ?_; rintro e w' ⟨rfl, rfl⟩)
        go_ret3
        exact ⟨by rw [hans.out]; rfl, rfl⟩

theorem parse_at (s : ByteArray) (hs : s.size ≤ 140737488355328) (a e p : Nat) (h : Hid (parseL s.data.toList = (a, e, p))) (w : World) :
    Calls Tryd.prog 21 #[.string s] w fun r w' => r = .returned (.tuple #[.int .u64 a, .int .i64 e, .int .i64 p]) ∧ ∃ n, w' = w.drewN n := by
  have := parse_any s hs w
  rw [h.out] at this
  exact this
theorem rparse_at (s : ByteArray) (hs : s.size ≤ 140737488355328) (a e p : Nat) (h : Hid (parseL s.data.toList = (a, e, p))) (w : World) :
    Calls Tryd.prog 22 #[.string s] w fun r w' => r = .returned (.tuple #[.int .u64 a, .int .i64 e, .int .i64 p]) ∧ w' = w := by
  have := rparse_any s hs w
  rw [h.out] at this
  exact this

set_option maxRecDepth 100000 in
set_option maxHeartbeats 1000000 in
theorem reads_walk (s : ByteArray) (hs : s.size ≤ 140737488355328) (w : World) :
    Calls Tryd.prog 6 #[.string s] w fun e w' => e = .returned (.bool true) ∧ Below w.heap.size w w' := by
  obtain ⟨a, e, p, h⟩ : ∃ a e p, Hid (parseL s.data.toList = (a, e, p)) := ⟨_, _, _, rfl⟩
  go_enter Tryd.func6, Tryd.ntmps6
  go_wp2_with (first | (go_at_call 8; refine (awake_any _).mono ?_; rintro e w1 ⟨rfl, hb1⟩) | (go_at_call 21; refine (parse_at s hs a e p h _).mono ?_; rintro e w2 ⟨rfl, n, rfl⟩) | (go_at_call 22; refine (rparse_at s hs a e p h _).mono ?_; rintro e w2 ⟨rfl, rfl⟩))
  go_ret
  exact ⟨rfl, below_drewN hb1 n⟩
end Go.Proofs.YtjjhfmiegoohlaaDoor
