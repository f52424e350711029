/- The document's answer for every instruction. -/
import Derived.Test.YtfkdaimhdjaefaaDoorGFa
import Derived.Test.YtfkdaimhdjaefaaDoorGFh
import Derived.Test.YtfkdaimhdjaefaaDoorGFi
namespace Go.Proofs.YtfkdaimhdjaefaaDoor.Flt
open Go.RowKit

theorem wd_lt' (b : Int) : wd b < 18446744073709551616 := wd_lt b

set_option maxRecDepth 100000 in
theorem ref_fadd (b c : Int) (w : World) :
    Calls Tryd.prog 29 #[.int .i64 15, .int .i64 b, .int .i64 c] w fun e w' => e = .returned (.tuple #[.int .i64 (wrap64 (fadd (wd b) (wd c))), .int .i64 0]) ∧ Below w.heap.size w w' := by
  have eb := wrap_u64_wd b
  have ec := wrap_u64_wd c
  have h := add_any (wd b) (wd c) (wd_lt' b) (wd_lt' c) w
  obtain ⟨A, hA⟩ : ∃ A, fadd (wd b) (wd c) = A := ⟨_, rfl⟩
  rw [hA] at h ⊢
  clear hA
  obtain ⟨B, hB⟩ : ∃ B, wd b = B := ⟨_, rfl⟩
  obtain ⟨C, hC⟩ : ∃ B, wd c = B := ⟨_, rfl⟩
  rw [hB] at eb h
  rw [hC] at ec h
  clear hB hC
  go_enter Tryd.func29, Tryd.ntmps29
  go_wp2_with fail
  refine h.mono ?_
  rintro e w1 ⟨rfl, b1⟩
  go_wp2_with fail
  go_ret2
  exact ⟨rfl, b1⟩

set_option maxRecDepth 100000 in
theorem ref_fmul (b c : Int) (w : World) :
    Calls Tryd.prog 29 #[.int .i64 17, .int .i64 b, .int .i64 c] w fun e w' => e = .returned (.tuple #[.int .i64 (wrap64 (fmul (wd b) (wd c))), .int .i64 0]) ∧ Below w.heap.size w w' := by
  have eb := wrap_u64_wd b
  have ec := wrap_u64_wd c
  have h := mul_any (wd b) (wd c) (wd_lt' b) (wd_lt' c) w
  obtain ⟨A, hA⟩ : ∃ A, fmul (wd b) (wd c) = A := ⟨_, rfl⟩
  rw [hA] at h ⊢
  clear hA
  obtain ⟨B, hB⟩ : ∃ B, wd b = B := ⟨_, rfl⟩
  obtain ⟨C, hC⟩ : ∃ B, wd c = B := ⟨_, rfl⟩
  rw [hB] at eb h
  rw [hC] at ec h
  clear hB hC
  go_enter Tryd.func29, Tryd.ntmps29
  go_wp2_with fail
  refine h.mono ?_
  rintro e w1 ⟨rfl, b1⟩
  go_wp2_with fail
  go_ret2
  exact ⟨rfl, b1⟩

set_option maxRecDepth 100000 in
theorem ref_fdiv (b c : Int) (w : World) :
    Calls Tryd.prog 29 #[.int .i64 18, .int .i64 b, .int .i64 c] w fun e w' => e = .returned (.tuple #[.int .i64 (wrap64 (fdiv (wd b) (wd c))), .int .i64 0]) ∧ Below w.heap.size w w' := by
  have eb := wrap_u64_wd b
  have ec := wrap_u64_wd c
  have h := div_any (wd b) (wd c) (wd_lt' b) (wd_lt' c) w
  obtain ⟨A, hA⟩ : ∃ A, fdiv (wd b) (wd c) = A := ⟨_, rfl⟩
  rw [hA] at h ⊢
  clear hA
  obtain ⟨B, hB⟩ : ∃ B, wd b = B := ⟨_, rfl⟩
  obtain ⟨C, hC⟩ : ∃ B, wd c = B := ⟨_, rfl⟩
  rw [hB] at eb h
  rw [hC] at ec h
  clear hB hC
  go_enter Tryd.func29, Tryd.ntmps29
  go_wp2_with fail
  refine h.mono ?_
  rintro e w1 ⟨rfl, b1⟩
  go_wp2_with fail
  go_ret2
  exact ⟨rfl, b1⟩

set_option maxRecDepth 100000 in
theorem ref_fsub (b c : Int) (w : World) :
    Calls Tryd.prog 29 #[.int .i64 16, .int .i64 b, .int .i64 c] w fun e w' => e = .returned (.tuple #[.int .i64 (wrap64 (fsub (wd b) (wd c))), .int .i64 0]) ∧ Below w.heap.size w w' := by
  have eb := wrap_u64_wd b
  have ec := wrap_u64_wd c
  have hN := isNaN23 (wd c) (wd_lt' c)
  by_cases c1 : INF < rungOf (wd c)
  · rw [decide_eq_true c1] at hN
    rw [fsub_of_nan (wd b) (wd c) (.inr c1)]
    have e1 : wrap64 (NAN : Int) = 9221120237041090560 := by kernel_rfl
    rw [e1]
    obtain ⟨C, hC⟩ : ∃ B, wd c = B := ⟨_, rfl⟩
    rw [hC] at ec hN
    clear hC c1 e1
    go_enter Tryd.func29, Tryd.ntmps29
    go_wp2_with fail
    refine (hN _).mono ?_
    rintro e w1 ⟨rfl, rfl⟩
    go_wp2_with fail
    go_ret2
    exact ⟨rfl, Below.refl _ _⟩
  · rw [decide_eq_false c1] at hN
    have h := add_any (wd b) (flip (wd c)) (wd_lt' b) (flip_lt _ (wd_lt c)) w
    rw [← fsub_flip (wd b) (wd c) (wd_lt c)] at h
    have ex : bits .xor .u64 (wd c : Int) 9223372036854775808 = (flip (wd c) : Int) := by
      have h1 := u64_xor_nat (wd c) 9223372036854775808 (wd_lt' c) (by omega)
      rw [show ((9223372036854775808 : Nat) : Int) = 9223372036854775808 from rfl] at h1
      rw [h1, show 9223372036854775808 = 2 ^ 63 by rfl, xor_flip _ (wd_lt c)]
    obtain ⟨A, hA⟩ : ∃ A, fsub (wd b) (wd c) = A := ⟨_, rfl⟩
    rw [hA] at h ⊢
    clear hA c1
    obtain ⟨F, hF⟩ : ∃ F, flip (wd c) = F := ⟨_, rfl⟩
    rw [hF] at h ex
    clear hF
    obtain ⟨B, hB⟩ : ∃ B, wd b = B := ⟨_, rfl⟩
    obtain ⟨C, hC⟩ : ∃ B, wd c = B := ⟨_, rfl⟩
    rw [hB] at eb h
    rw [hC] at ec ex hN
    clear hB hC
    go_enter Tryd.func29, Tryd.ntmps29
    go_wp2_with fail
    refine (hN _).mono ?_
    rintro e w1 ⟨rfl, rfl⟩
    go_wp2_with fail
    refine h.mono ?_
    rintro e w1 ⟨rfl, b1⟩
    go_wp2_with fail
    go_ret2
    exact ⟨rfl, b1⟩

set_option maxRecDepth 100000 in
theorem ref_fless (b c : Int) (w : World) :
    Calls Tryd.prog 29 #[.int .i64 19, .int .i64 b, .int .i64 c] w fun e w' => e = .returned (.tuple #[.int .i64 (if fless (wd b) (wd c) then 1 else 0), .int .i64 0]) ∧ Below w.heap.size w w' := by
  have eb := wrap_u64_wd b
  have ec := wrap_u64_wd c
  have h := below_any (wd b) (wd c) (wd_lt' b) (wd_lt' c) w
  obtain ⟨A, hA⟩ : ∃ A : Int, (if fless (wd b) (wd c) = true then 1 else 0) = A := ⟨_, rfl⟩
  rw [hA] at h ⊢
  clear hA
  obtain ⟨B, hB⟩ : ∃ B, wd b = B := ⟨_, rfl⟩
  obtain ⟨C, hC⟩ : ∃ B, wd c = B := ⟨_, rfl⟩
  rw [hB] at eb h
  rw [hC] at ec h
  clear hB hC
  go_enter Tryd.func29, Tryd.ntmps29
  go_wp2_with fail
  refine h.mono ?_
  rintro e w1 ⟨rfl, rfl⟩
  go_wp2_with fail
  go_ret2
  exact ⟨rfl, Below.refl _ _⟩

set_option maxRecDepth 100000 in
theorem ref_tofloat (b c : Int) (h1 : -9223372036854775808 ≤ b) (h2 : b ≤ 9223372036854775807) (w : World) :
    Calls Tryd.prog 29 #[.int .i64 20, .int .i64 b, .int .i64 c] w fun e w' => e = .returned (.tuple #[.int .i64 (wrap64 (ofInt b)), .int .i64 0]) ∧ Below w.heap.size w w' := by
  have eb := wrap_u64_wd b
  have ec := wrap_u64_wd c
  have h := float_any b h1 h2 w
  obtain ⟨A, hA⟩ : ∃ A, ofInt b = A := ⟨_, rfl⟩
  rw [hA] at h ⊢
  clear hA
  obtain ⟨B, hB⟩ : ∃ B, wd b = B := ⟨_, rfl⟩
  obtain ⟨C, hC⟩ : ∃ B, wd c = B := ⟨_, rfl⟩
  rw [hB] at eb
  rw [hC] at ec
  clear hB hC
  go_enter Tryd.func29, Tryd.ntmps29
  go_wp2_with fail
  refine h.mono ?_
  rintro e w1 ⟨rfl, b1⟩
  go_wp2_with fail
  go_ret2
  exact ⟨rfl, b1⟩

set_option maxRecDepth 100000 in
theorem ref_toint (b c : Int) (w : World) :
    Calls Tryd.prog 29 #[.int .i64 21, .int .i64 b, .int .i64 c] w fun e w' => e = .returned (.tuple #[.int .i64 (fwhole (wd b)), .int .i64 0]) ∧ Below w.heap.size w w' := by
  have eb := wrap_u64_wd b
  have ec := wrap_u64_wd c
  have h := whole_any (wd b) (wd_lt' b) w
  obtain ⟨A, hA⟩ : ∃ A, fwhole (wd b) = A := ⟨_, rfl⟩
  rw [hA] at h ⊢
  clear hA
  obtain ⟨B, hB⟩ : ∃ B, wd b = B := ⟨_, rfl⟩
  obtain ⟨C, hC⟩ : ∃ B, wd c = B := ⟨_, rfl⟩
  rw [hB] at eb h
  rw [hC] at ec
  clear hB hC
  go_enter Tryd.func29, Tryd.ntmps29
  go_wp2_with fail
  refine h.mono ?_
  rintro e w1 ⟨rfl, rfl⟩
  go_wp2_with fail
  go_ret2
  exact ⟨rfl, Below.refl _ _⟩

set_option maxRecDepth 100000 in
theorem ref_none (op b c : Int) (w : World) (h : op < 15 ∨ 21 < op) :
    Calls Tryd.prog 29 #[.int .i64 op, .int .i64 b, .int .i64 c] w fun e w' => e = .returned (.tuple #[.int .i64 0, .int .i64 9]) ∧ Below w.heap.size w w' := by
  have eb := wrap_u64_wd b
  have ec := wrap_u64_wd c
  have e15 : (op == 15) = false := by simp; omega
  have e16 : (op == 16) = false := by simp; omega
  have e17 : (op == 17) = false := by simp; omega
  have e18 : (op == 18) = false := by simp; omega
  have e19 : (op == 19) = false := by simp; omega
  have e20 : (op == 20) = false := by simp; omega
  have e21 : (op == 21) = false := by simp; omega
  clear h
  go_enter Tryd.func29, Tryd.ntmps29
  go_wp2_with fail
  go_ret2
  exact ⟨rfl, Below.refl _ _⟩

/-- Program and document tell the same. -/
theorem both (op b c : Int) (hb : -9223372036854775808 ≤ b ∧ b ≤ 9223372036854775807) : ∃ v e : Int,
    (∀ w : World, Calls Tryd.prog 27 #[.int .i64 op, .int .i64 b, .int .i64 c] w fun r w' => r = .returned (.tuple #[.int .i64 v, .int .i64 e]) ∧ Below w.heap.size w w') ∧
    (∀ w : World, Calls Tryd.prog 29 #[.int .i64 op, .int .i64 b, .int .i64 c] w fun r w' => r = .returned (.tuple #[.int .i64 v, .int .i64 e]) ∧ Below w.heap.size w w') := by
  by_cases h : op < 15 ∨ 21 < op
  · exact ⟨_, _, fun w => do_none op b c w h, fun w => ref_none op b c w h⟩
  · by_cases h1 : op = 15
    · subst h1; exact ⟨_, _, fun w => do_fadd b c w, fun w => ref_fadd b c w⟩
    by_cases h2 : op = 16
    · subst h2; exact ⟨_, _, fun w => do_fsub b c w, fun w => ref_fsub b c w⟩
    by_cases h3 : op = 17
    · subst h3; exact ⟨_, _, fun w => do_fmul b c w, fun w => ref_fmul b c w⟩
    by_cases h4 : op = 18
    · subst h4; exact ⟨_, _, fun w => do_fdiv b c w, fun w => ref_fdiv b c w⟩
    by_cases h5 : op = 19
    · subst h5; exact ⟨_, _, fun w => do_fless b c w, fun w => ref_fless b c w⟩
    by_cases h6 : op = 20
    · subst h6; exact ⟨_, _, fun w => do_tofloat b c w, fun w => ref_tofloat b c hb.1 hb.2 w⟩
    have h7 : op = 21 := by omega
    subst h7; exact ⟨_, _, fun w => do_toint b c w, fun w => ref_toint b c w⟩
end Go.Proofs.YtfkdaimhdjaefaaDoor.Flt
