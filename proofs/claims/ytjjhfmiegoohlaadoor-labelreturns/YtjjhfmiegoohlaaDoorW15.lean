/- LabelReturns: the walk. -/
import Derived.Test.YtjjhfmiegoohlaaDoorW7
import Derived.Test.YtjjhfmiegoohlaaDoorM7
import Derived.Lib.Strings
namespace Go.Proofs.YtjjhfmiegoohlaaDoor
open Go.RowKit

theorem parse_is (s : ByteArray) (hs : s.size ≤ 140737488355328) (a e p : Nat) (h : Hid (parseL s.data.toList = (a, e, p))) (w : World) :
    Calls Tryd.prog 21 #[.string s] w fun r w' => r = .returned (.tuple #[.int .u64 a, .int .i64 e, .int .i64 p]) ∧ ∃ n, w' = w.drewN n := by
  have := parse_any s hs w
  rw [h.out] at this
  exact this
theorem print_is (a : Nat) (ha : a < 18446744073709551616) (s : ByteArray) (h : Hid (s.data.toList = printL a)) (w : World) :
    Calls Tryd.prog 19 #[.int .u64 a] w fun e w' => e = .returned (.string s) ∧ Below w.heap.size w w' := by
  have := print_any a ha w
  have e : (⟨(printL a).toArray⟩ : ByteArray) = s := by
    apply ByteArray.ext
    simp [← h.out]
  rw [e] at this
  exact this
theorem str_ne (s t : ByteArray) (h : s.data.toList ≠ t.data.toList) : (s.toList == t.toList) = false := by
  rw [Lib.toList_data, Lib.toList_data]; simpa using h

/-- Where the last text is cut: k is the rest of the division, made positive. -/
theorem cut_at (c : Int) (L : Nat) (hL : 0 < L) : (0 ≤ c.tmod L ∧ ∃ k : Nat, k < L ∧ c.tmod L = k) ∨ (c.tmod L < 0 ∧ ∃ k : Nat, k < L ∧ c.tmod L + L = k) := by
  by_cases h : 0 ≤ c.tmod L
  · refine .inl ⟨h, (c.tmod L).toNat, ?_, by omega⟩
    have := Int.tmod_lt_of_pos c (b := L) (by omega)
    omega
  · refine .inr ⟨by omega, (c.tmod L + L).toNat, ?_, ?_⟩
    · omega
    · have := Int.lt_tmod_of_pos c (b := L) (by omega)
      omega

theorem print_size (a : Nat) (s : ByteArray) (h : Hid (s.data.toList = printL a)) : s.size ≤ 194 ∧ 2 ≤ s.size := by
  rw [← len_eq, h.out]
  unfold printL
  have := txt_len a 64
  rw [List.length_append, List.length_singleton]
  omega

set_option maxRecDepth 100000 in
set_option maxHeartbeats 2000000 in
theorem returns_walk (a b : Nat) (t : ByteArray) (c : Int) (ha : a < 18446744073709551616) (hb : b < 18446744073709551616) (ht : t.size ≤ 140737488355328) (_hc : -9223372036854775808 ≤ c ∧ c ≤ 9223372036854775807) (w : World) :
    Calls Tryd.prog 7 #[.int .u64 a, .int .u64 b, .string t, .int .i64 c] w fun e w' => e = .returned (.bool true) ∧ Below w.heap.size w w' := by
  obtain ⟨s, hs⟩ : ∃ s : ByteArray, Hid (s.data.toList = printL a) := ⟨⟨(printL a).toArray⟩, by simp [Hid]⟩
  obtain ⟨sb, hsb⟩ : ∃ s : ByteArray, Hid (s.data.toList = printL b) := ⟨⟨(printL b).toArray⟩, by simp [Hid]⟩
  obtain ⟨s1, s2⟩ := print_size a s hs
  have hp1 : Hid (parseL s.data.toList = (a, 0, 0)) := by rw [Hid, hs.out]; exact parse_print a ha
  have hcmp : ((sb.toList == s.toList) = true ∧ (((a : Int) == (b : Int)) : Bool) = true) ∨ ((sb.toList == s.toList) = false ∧ (((a : Int) == (b : Int)) : Bool) = false) := by
    by_cases e : a = b
    · refine .inl ⟨?_, by rw [beq_iff_eq]; omega⟩
      rw [Lib.toList_data, Lib.toList_data, hsb.out, hs.out, e]; simp
    · refine .inr ⟨str_ne sb s ?_, by rw [beq_eq_false_iff_ne]; omega⟩
      rw [hsb.out, hs.out]
      exact fun h => e (print_inj b a hb ha h).symm
  obtain ⟨y, e, p, hpt⟩ : ∃ y e p, Hid (parseL t.data.toList = (y, e, p)) := ⟨_, _, _, rfl⟩
  have hok := parse_ok _ _ _ _ hpt.out
  rw [len_eq] at hok
  have Hok : Hid _ := hok
  have Hcut : Hid _ := cut_at c s.size (by omega)
  have Hsl : Hid (∀ k, k < s.size → Hid (parseL (s.extract 0 k).data.toList = (0, 5, k)) ∧ (s.extract 0 k).size ≤ 140737488355328) := by
    intro k hk
    have e1 : (s.extract 0 k).data.toList = s.data.toList.take k := by rw [Lib.extract_data]; simp
    refine ⟨?_, ?_⟩
    · rw [Hid, e1, hs.out]
      exact parse_cut a k ha (by rw [← hs.out, len_eq]; exact hk)
    · rw [← len_eq, e1, List.length_take]; omega
  clear hok
  have s0 : (((s.size : Int) == 0) : Bool) = false := by rw [beq_eq_false_iff_ne]; omega
  rcases hcmp with ⟨hc1, hc2⟩ | ⟨hc1, hc2⟩
  all_goals
    go_enter Tryd.func7, Tryd.ntmps7
    go_wp2_with fail
    refine (awake_any _).mono ?_
    rintro e1 w1 ⟨rfl, hb1⟩
    go_wp2_with fail
    refine (print_is a ha s hs _).mono ?_
    rintro e1 w2 ⟨rfl, hb2⟩
    go_wp2_with fail
    refine (parse_is s (by omega) a 0 0 hp1 _).mono ?_
    rintro e1 w3 ⟨rfl, n1, rfl⟩
    go_wp2_with fail
    refine (print_is b hb sb hsb _).mono ?_
    rintro e1 w4 ⟨rfl, hb4⟩
    have hbx : Below w.heap.size w w4 := (below_drewN (hb1.trans (hb2.mono hb1.size)) n1).trans (hb4.mono (Nat.le_trans hb1.size hb2.size))
    clear hb1 hb2 hb4
    go_wp2_with fail
    refine (parse_is t ht y e p hpt _).mono ?_
    rintro e1 w5 ⟨rfl, n2, rfl⟩
    have hby := below_drewN hbx n2
    clear hbx
    by_cases he : e = 0
    · obtain ⟨hpr, hp0, hy⟩ := Hok.out.1 he
      subst he
      subst hp0
      have Hpr : Hid (t.data.toList = printL y) := hpr.symm
      clear hpr
      go_wp2_with fail
      refine (print_is y hy t Hpr _).mono ?_
      rintro e1 w6 ⟨rfl, hb6⟩
      have hbz : Below w.heap.size w w6 := hby.trans (hb6.mono hby.size)
      clear hby hb6
      rcases Hcut.out with ⟨c1, k, hk, ck⟩ | ⟨c1, k, hk, ck⟩
      · obtain ⟨hpk, hsk⟩ := Hsl.out k hk
        have c2 : decide (c.tmod (s.size : Int) < 0) = false := by simp; omega
        rw [ck] at c1 c2
        go_wp2_with fail
        refine (parse_is (s.extract 0 k) hsk 0 5 k hpk _).mono ?_
        rintro e1 w7 ⟨rfl, n3, rfl⟩
        go_wp2
        go_ret
        exact ⟨rfl, below_drewN hbz n3⟩
      · obtain ⟨hpk, hsk⟩ := Hsl.out k hk
        have c2 : -(s.size : Int) ≤ c.tmod (s.size : Int) := by omega
        go_wp2_with fail
        refine (parse_is (s.extract 0 k) hsk 0 5 k hpk _).mono ?_
        rintro e1 w7 ⟨rfl, n3, rfl⟩
        go_wp2
        go_ret
        exact ⟨rfl, below_drewN hbz n3⟩
    · obtain ⟨hy, hpl⟩ := Hok.out.2 he
      subst hy
      have e2 : (((e : Int) == 0) : Bool) = false := by rw [beq_eq_false_iff_ne]; omega
      have e3 : (((e : Int) != 0) : Bool) = true := by rw [bne_iff_ne]; omega
      have e4 : decide ((t.size : Int) < (p : Int)) = false := by simp; omega
      have hbz := hby
      clear hby
      rcases Hcut.out with ⟨c1, k, hk, ck⟩ | ⟨c1, k, hk, ck⟩
      · obtain ⟨hpk, hsk⟩ := Hsl.out k hk
        have c2 : decide (c.tmod (s.size : Int) < 0) = false := by simp; omega
        rw [ck] at c1 c2
        go_wp2_with fail
        refine (parse_is (s.extract 0 k) hsk 0 5 k hpk _).mono ?_
        rintro e1 w7 ⟨rfl, n3, rfl⟩
        go_wp2
        go_ret
        exact ⟨rfl, by rw [← World.drewN_drewN]; exact below_drewN hbz n3⟩
      · obtain ⟨hpk, hsk⟩ := Hsl.out k hk
        have c2 : -(s.size : Int) ≤ c.tmod (s.size : Int) := by omega
        go_wp2_with fail
        refine (parse_is (s.extract 0 k) hsk 0 5 k hpk _).mono ?_
        rintro e1 w7 ⟨rfl, n3, rfl⟩
        go_wp2
        go_ret
        exact ⟨rfl, by rw [← World.drewN_drewN]; exact below_drewN hbz n3⟩
end Go.Proofs.YtjjhfmiegoohlaaDoor
