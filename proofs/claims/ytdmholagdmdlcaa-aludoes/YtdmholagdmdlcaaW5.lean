/- The document's answer at each instruction, and AluDoes. -/
import Derived.Test.YtdmholagdmdlcaaW4
namespace Go.Proofs.Ytdmholagdmdlcaa
open Go.RowKit

theorem wrap64_toNat (x : BitVec 64) : wrap64 (x.toNat : Int) = x.toInt := by
  rw [← bmod_wrap, BitVec.ofInt_natCast, BitVec.ofNat_toNat]
  simp
theorem nat_lt (b : Int) : (BitVec.ofInt 64 b).toNat < 18446744073709551616 := (BitVec.ofInt 64 b).isLt

theorem rbits_and (b c : Int) (w : World) :
    Calls Try.prog 13 #[.int .i64 b, .int .i64 c, .agg #[.int .u64 0, .int .u64 0, .int .u64 0, .int .u64 1]] w fun e w' => e = .returned (.int .i64 (iand b c)) ∧ Below w.heap.size w w' := by
  have h := bits_any b c _ _ (nat_lt b) (nat_lt c) (ofInt_nat b).symm (ofInt_nat c).symm (fun x y => x && y) w
  rw [bits_end (fun x y => x && y) (fun x y => x &&& y) (fun x y i _ => by simp only [BitVec.toNat_and, Nat.testBit_and]) (BitVec.ofInt 64 b) (BitVec.ofInt 64 c), wrap64_toNat, ← iand_bv] at h
  exact h

theorem rbits_or (b c : Int) (w : World) :
    Calls Try.prog 13 #[.int .i64 b, .int .i64 c, .agg #[.int .u64 0, .int .u64 1, .int .u64 1, .int .u64 1]] w fun e w' => e = .returned (.int .i64 (ior b c)) ∧ Below w.heap.size w w' := by
  have h := bits_any b c _ _ (nat_lt b) (nat_lt c) (ofInt_nat b).symm (ofInt_nat c).symm (fun x y => x || y) w
  rw [bits_end (fun x y => x || y) (fun x y => x ||| y) (fun x y i _ => by simp only [BitVec.toNat_or, Nat.testBit_or]) (BitVec.ofInt 64 b) (BitVec.ofInt 64 c), wrap64_toNat, ← ior_bv] at h
  exact h

theorem rbits_xor (b c : Int) (w : World) :
    Calls Try.prog 13 #[.int .i64 b, .int .i64 c, .agg #[.int .u64 0, .int .u64 1, .int .u64 1, .int .u64 0]] w fun e w' => e = .returned (.int .i64 (ixor b c)) ∧ Below w.heap.size w w' := by
  have h := bits_any b c _ _ (nat_lt b) (nat_lt c) (ofInt_nat b).symm (ofInt_nat c).symm (fun x y => Bool.xor x y) w
  rw [bits_end (fun x y => Bool.xor x y) (fun x y => x ^^^ y) (fun x y i _ => by simp only [BitVec.toNat_xor, Nat.testBit_xor]) (BitVec.ofInt 64 b) (BitVec.ofInt 64 c), wrap64_toNat, ← ixor_bv] at h
  exact h

set_option maxRecDepth 100000 in
set_option maxHeartbeats 1000000 in
theorem r_add (b c : Int) (w : World) :
    Calls Try.prog 9 #[.int .i64 3, .int .i64 b, .int .i64 c] w fun e w' => e = .returned (.tuple #[.int .i64 (iadd b c), .int .i64 0]) ∧ Below w.heap.size w w' := by
  go_enter Try.func9, Try.ntmps9
  go_wp2
  go_ret2
  exact ⟨rfl, Below.refl _ _⟩

set_option maxRecDepth 100000 in
set_option maxHeartbeats 1000000 in
theorem r_sub (b c : Int) (w : World) :
    Calls Try.prog 9 #[.int .i64 4, .int .i64 b, .int .i64 c] w fun e w' => e = .returned (.tuple #[.int .i64 (isub b c), .int .i64 0]) ∧ Below w.heap.size w w' := by
  go_enter Try.func9, Try.ntmps9
  go_wp2
  go_ret2
  exact ⟨rfl, Below.refl _ _⟩

set_option maxRecDepth 100000 in
set_option maxHeartbeats 1000000 in
theorem r_mul (b c : Int) (w : World) :
    Calls Try.prog 9 #[.int .i64 5, .int .i64 b, .int .i64 c] w fun e w' => e = .returned (.tuple #[.int .i64 (imul b c), .int .i64 0]) ∧ Below w.heap.size w w' := by
  go_enter Try.func9, Try.ntmps9
  go_wp2
  go_ret2
  exact ⟨rfl, Below.refl _ _⟩

set_option maxRecDepth 100000 in
set_option maxHeartbeats 1000000 in
theorem r_div (b c : Int) (hb : Fits b) (hc : Fits c) (w : World) :
    Calls Try.prog 9 #[.int .i64 6, .int .i64 b, .int .i64 c] w fun e w' => e = .returned (.tuple #[.int .i64 (idiv b c), .int .i64 0]) ∧ Below w.heap.size w w' := by
  go_enter Try.func9, Try.ntmps9
  go_wp2_with (go_at_call 12; refine (by_any b c hb hc _).mono ?_; rintro e w' ⟨rfl, rfl⟩)
  go_ret2
  exact ⟨rfl, Below.refl _ _⟩

set_option maxRecDepth 100000 in
set_option maxHeartbeats 1000000 in
theorem r_rem (b c : Int) (hb : Fits b) (hc : Fits c) (w : World) :
    Calls Try.prog 9 #[.int .i64 7, .int .i64 b, .int .i64 c] w fun e w' => e = .returned (.tuple #[.int .i64 (irem b c), .int .i64 0]) ∧ Below w.heap.size w w' := by
  unfold irem
  go_enter Try.func9, Try.ntmps9
  go_wp2_with (go_at_call 12; refine (by_any b c hb hc _).mono ?_; rintro e w' ⟨rfl, rfl⟩)
  go_ret2
  exact ⟨rfl, Below.refl _ _⟩

set_option maxRecDepth 100000 in
set_option maxHeartbeats 1000000 in
theorem r_and (b c : Int) (w : World) :
    Calls Try.prog 9 #[.int .i64 8, .int .i64 b, .int .i64 c] w fun e w' => e = .returned (.tuple #[.int .i64 (iand b c), .int .i64 0]) ∧ Below w.heap.size w w' := by
  go_enter Try.func9, Try.ntmps9
  go_wp2_with (go_at_call 13; refine (rbits_and b c _).mono ?_; rintro e w' ⟨rfl, hb⟩)
  go_ret2
  exact ⟨rfl, hb⟩

set_option maxRecDepth 100000 in
set_option maxHeartbeats 1000000 in
theorem r_or (b c : Int) (w : World) :
    Calls Try.prog 9 #[.int .i64 9, .int .i64 b, .int .i64 c] w fun e w' => e = .returned (.tuple #[.int .i64 (ior b c), .int .i64 0]) ∧ Below w.heap.size w w' := by
  go_enter Try.func9, Try.ntmps9
  go_wp2_with (go_at_call 13; refine (rbits_or b c _).mono ?_; rintro e w' ⟨rfl, hb⟩)
  go_ret2
  exact ⟨rfl, hb⟩

set_option maxRecDepth 100000 in
set_option maxHeartbeats 1000000 in
theorem r_xor (b c : Int) (w : World) :
    Calls Try.prog 9 #[.int .i64 10, .int .i64 b, .int .i64 c] w fun e w' => e = .returned (.tuple #[.int .i64 (ixor b c), .int .i64 0]) ∧ Below w.heap.size w w' := by
  go_enter Try.func9, Try.ntmps9
  go_wp2_with (go_at_call 13; refine (rbits_xor b c _).mono ?_; rintro e w' ⟨rfl, hb⟩)
  go_ret2
  exact ⟨rfl, hb⟩

set_option maxRecDepth 100000 in
set_option maxHeartbeats 1000000 in
theorem r_shl (b c : Int) (hb : Fits b) (hc : Fits c) (w : World) :
    Calls Try.prog 9 #[.int .i64 11, .int .i64 b, .int .i64 c] w fun e w' => e = .returned (.tuple #[.int .i64 (ishl b c), .int .i64 0]) ∧ Below w.heap.size w w' := by
  go_enter Try.func9, Try.ntmps9
  go_wp2_with (go_at_call 14; refine (up_any b c hb hc _).mono ?_; rintro e w' ⟨rfl, rfl⟩)
  go_ret2
  exact ⟨rfl, Below.refl _ _⟩

set_option maxRecDepth 100000 in
set_option maxHeartbeats 1000000 in
theorem r_shr (b c : Int) (hb : Fits b) (hc : Fits c) (w : World) :
    Calls Try.prog 9 #[.int .i64 12, .int .i64 b, .int .i64 c] w fun e w' => e = .returned (.tuple #[.int .i64 (ishr b c), .int .i64 0]) ∧ Below w.heap.size w w' := by
  go_enter Try.func9, Try.ntmps9
  go_wp2_with (go_at_call 15; refine (down_any b c hb hc _).mono ?_; rintro e w' ⟨rfl, rfl⟩)
  go_ret2
  exact ⟨rfl, Below.refl _ _⟩

set_option maxRecDepth 100000 in
set_option maxHeartbeats 1000000 in
theorem r_less (b c : Int) (w : World) :
    Calls Try.prog 9 #[.int .i64 13, .int .i64 b, .int .i64 c] w fun e w' => e = .returned (.tuple #[.int .i64 (iless b c), .int .i64 0]) ∧ Below w.heap.size w w' := by
  unfold iless
  by_cases h : b < c
  · have h1 : decide (b < c) = true := by simp [h]
    rw [if_pos h]
    clear h
    go_enter Try.func9, Try.ntmps9
    go_wp2_with (go_at_call 16; refine (truth_any true _).mono ?_; rintro e w' ⟨rfl, rfl⟩)
    go_ret2
    exact ⟨rfl, Below.refl _ _⟩
  · have h1 : decide (b < c) = false := by simp [h]
    rw [if_neg h]
    clear h
    go_enter Try.func9, Try.ntmps9
    go_wp2_with (go_at_call 16; refine (truth_any false _).mono ?_; rintro e w' ⟨rfl, rfl⟩)
    go_ret2
    exact ⟨rfl, Below.refl _ _⟩

set_option maxRecDepth 100000 in
set_option maxHeartbeats 1000000 in
theorem r_equal (b c : Int) (w : World) :
    Calls Try.prog 9 #[.int .i64 14, .int .i64 b, .int .i64 c] w fun e w' => e = .returned (.tuple #[.int .i64 (iequal b c), .int .i64 0]) ∧ Below w.heap.size w w' := by
  unfold iequal
  by_cases h : b = c
  · have h1 : (b == c) = true := by simp [h]
    rw [if_pos h]
    clear h
    go_enter Try.func9, Try.ntmps9
    go_wp2_with (go_at_call 16; refine (truth_any true _).mono ?_; rintro e w' ⟨rfl, rfl⟩)
    go_ret2
    exact ⟨rfl, Below.refl _ _⟩
  · have h1 : (b == c) = false := by simp [h]
    rw [if_neg h]
    clear h
    go_enter Try.func9, Try.ntmps9
    go_wp2_with (go_at_call 16; refine (truth_any false _).mono ?_; rintro e w' ⟨rfl, rfl⟩)
    go_ret2
    exact ⟨rfl, Below.refl _ _⟩

set_option maxRecDepth 100000 in
set_option maxHeartbeats 1000000 in
theorem r_none (op b c : Int) (h : op < 3 ∨ 14 < op) (w : World) :
    Calls Try.prog 9 #[.int .i64 op, .int .i64 b, .int .i64 c] w fun e w' => e = .returned (.tuple #[.int .i64 0, .int .i64 9]) ∧ Below w.heap.size w w' := by
  have t3 : (op == 3) = false := by rw [beq_eq_false_iff_ne]; omega
  have t4 : (op == 4) = false := by rw [beq_eq_false_iff_ne]; omega
  have t5 : (op == 5) = false := by rw [beq_eq_false_iff_ne]; omega
  have t6 : (op == 6) = false := by rw [beq_eq_false_iff_ne]; omega
  have t7 : (op == 7) = false := by rw [beq_eq_false_iff_ne]; omega
  have t8 : (op == 8) = false := by rw [beq_eq_false_iff_ne]; omega
  have t9 : (op == 9) = false := by rw [beq_eq_false_iff_ne]; omega
  have t10 : (op == 10) = false := by rw [beq_eq_false_iff_ne]; omega
  have t11 : (op == 11) = false := by rw [beq_eq_false_iff_ne]; omega
  have t12 : (op == 12) = false := by rw [beq_eq_false_iff_ne]; omega
  have t13 : (op == 13) = false := by rw [beq_eq_false_iff_ne]; omega
  have t14 : (op == 14) = false := by rw [beq_eq_false_iff_ne]; omega
  clear h
  go_enter Try.func9, Try.ntmps9
  go_wp2
  go_ret2
  exact ⟨rfl, Below.refl _ _⟩

/-- Both tell the same. -/
theorem both (op b c : Int) (hb : Fits b) (hc : Fits c) : ∃ x e : Int,
    (∀ w, Calls Try.prog 8 #[.int .i64 op, .int .i64 b, .int .i64 c] w fun r w' => r = .returned (.tuple #[.int .i64 x, .int .i64 e]) ∧ Below w.heap.size w w') ∧
    (∀ w, Calls Try.prog 9 #[.int .i64 op, .int .i64 b, .int .i64 c] w fun r w' => r = .returned (.tuple #[.int .i64 x, .int .i64 e]) ∧ Below w.heap.size w w') := by
  by_cases h1 : op < 3
  · exact ⟨0, 9, do_below op b c h1, r_none op b c (.inl h1)⟩
  by_cases h2 : 14 < op
  · exact ⟨0, 9, do_above op b c h2, r_none op b c (.inr h2)⟩
  have h3 : op = 3 ∨ op = 4 ∨ op = 5 ∨ op = 6 ∨ op = 7 ∨ op = 8 ∨ op = 9 ∨ op = 10 ∨ op = 11 ∨ op = 12 ∨ op = 13 ∨ op = 14 := by omega
  rcases h3 with rfl | rfl | rfl | rfl | rfl | rfl | rfl | rfl | rfl | rfl | rfl | rfl
  · exact ⟨_, _, do_add b c, r_add b c⟩
  · exact ⟨_, _, do_sub b c, r_sub b c⟩
  · exact ⟨_, _, do_mul b c, r_mul b c⟩
  · exact ⟨_, _, do_div b c, r_div b c hb hc⟩
  · exact ⟨_, _, do_rem b c, r_rem b c hb hc⟩
  · exact ⟨_, _, do_and b c, r_and b c⟩
  · exact ⟨_, _, do_or b c, r_or b c⟩
  · exact ⟨_, _, do_xor b c, r_xor b c⟩
  · exact ⟨_, _, do_shl b c, r_shl b c hb hc⟩
  · exact ⟨_, _, do_shr b c, r_shr b c hb hc⟩
  · exact ⟨_, _, do_less b c, r_less b c⟩
  · exact ⟨_, _, do_equal b c, r_equal b c⟩

set_option maxRecDepth 100000 in
set_option maxHeartbeats 1000000 in
theorem aluDoes_walk (op b c : Int) (_ho : Fits op) (hb : Fits b) (hc : Fits c) (w : World) :
    Calls Try.prog 4 #[.int .i64 op, .int .i64 b, .int .i64 c] w fun e w' => e = .returned (.bool true) ∧ Below w.heap.size w w' := by
  obtain ⟨x0, e0, f1, f2⟩ := both op b c hb hc
  have hboth : Hid (∀ k : Int, ∃ x e : Int,
    (∀ w, Calls Try.prog 8 #[.int .i64 k, .int .i64 b, .int .i64 c] w fun r w' => r = .returned (.tuple #[.int .i64 x, .int .i64 e]) ∧ Below w.heap.size w w') ∧
    (∀ w, Calls Try.prog 9 #[.int .i64 k, .int .i64 b, .int .i64 c] w fun r w' => r = .returned (.tuple #[.int .i64 x, .int .i64 e]) ∧ Below w.heap.size w w')) := fun k => both k b c hb hc
  clear _ho hb hc
  go_enter Try.func4, Try.ntmps4
  go_wp2_with fail
  refine (f1 _).mono ?_
  rintro e w1 ⟨rfl, b1⟩
  go_wp2_with fail
  refine (f2 _).mono ?_
  rintro e w2 ⟨rfl, b2⟩
  replace b1 := b1.trans (b2.mono b1.size)
  clear b2 f1 f2
  go_wp2_with fail
  go_loopw [7, 8, 9, 10, 11] (fun a1 a2 a3 a4 i wr => ∃ k : Nat, k ≤ 36 ∧ i = .int .i64 ((k : Int) - 1) ∧ Below w.heap.size w wr) (fun _ _ _ _ i _ => 36 - (intOf i + 1).toNat)
  case atStart => exact ⟨0, Nat.zero_le _, rfl, b1⟩
  case round =>
    clear b1
    obtain ⟨k, hk, rfl, b1⟩ := hrel
    obtain ⟨K, hK⟩ : ∃ K : Int, (k : Int) - 1 = K := ⟨_, rfl⟩
    rw [hK]
    have hK1 : -1 ≤ K ∧ K ≤ 35 := by omega
    have HK : Hid ((k : Int) - 1 = K) := hK
    clear hK
    by_cases hlt : K ≤ 34
    · obtain ⟨x, e, g1, g2⟩ := hboth.out K
      go_wp2_with fail
      refine (g1 _).mono ?_
      rintro r w3 ⟨rfl, b2⟩
      replace b1 := b1.trans (b2.mono b1.size)
      clear b2
      go_wp2_with fail
      refine (g2 _).mono ?_
      rintro r w4 ⟨rfl, b2⟩
      replace b1 := b1.trans (b2.mono b1.size)
      clear b2 g1 g2
      go_wp2_with fail
      exact ⟨⟨k + 1, by have := HK.out; omega, by have := HK.out; go_num, b1⟩, by have := HK.out; simp [intOf]; omega⟩
    · have hd : decide (K ≤ 34) = false := decide_eq_false hlt
      clear hlt
      go_wp2_with fail
      refine (fixed_any _).mono ?_
      rintro r w3 ⟨rfl, b2⟩
      replace b1 := b1.trans (b2.mono b1.size)
      go_wp2
      go_ret
      exact ⟨rfl, b1⟩
end Go.Proofs.Ytdmholagdmdlcaa
