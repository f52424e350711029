/- The document's own functions. -/
import Derived.Test.YtfkdaimhdjaefaaDoorAW3
import Derived.Test.YtfkdaimhdjaefaaDoorGAm
import Derived.Deep.Quiet
import Derived.Deep.QuietTactic
import Derived.BigQuiet
namespace Go.Proofs.YtfkdaimhdjaefaaDoor.Alu
open Go.RowKit

theorem below_drewN {B : Nat} {a w : World} (h : Below B a w) (n : Nat) : Below B a (w.drewN n) := ⟨h.os, h.tape, h.output, h.size, h.block⟩

theorem wrap64_u64 (n : Int) : wrap64 (IntKind.u64.wrap n) = wrap64 n := by
  rw [IntKind.wrap_u64]; unfold wrap64; omega

theorem truth_any (x : Bool) (w : World) :
    Calls Tryd.prog 49 #[.bool x] w fun e w' => e = .returned (.int .i64 (if x then 1 else 0)) ∧ w' = w := by
  cases x
  all_goals
    go_enter Tryd.func49, Tryd.ntmps49
    go_wp2
    go_ret
    exact ⟨rfl, rfl⟩

theorem size_any (n : Int) (h : Fits n) (w : World) :
    Calls Tryd.prog 80 #[.int .i64 n] w fun e w' => e = .returned (.int .u64 (n.natAbs : Nat)) ∧ w' = w := by
  unfold Fits at h
  by_cases hn : n < 0
  · go_enter Tryd.func80, Tryd.ntmps80
    go_wp2
    go_ret
    exact ⟨ret_int (by omega), rfl⟩
  · have hn' : 0 ≤ n := by omega
    have hd : decide (n < 0) = false := decide_eq_false hn
    clear hn
    go_enter Tryd.func80, Tryd.ntmps80
    go_wp2
    go_ret
    exact ⟨ret_int (by omega), rfl⟩

set_option maxHeartbeats 1000000 in
theorem by_any (b c : Int) (hb : Fits b) (hc : Fits c) (w : World) :
    Calls Tryd.prog 45 #[.int .i64 b, .int .i64 c] w fun e w' => e = .returned (.int .i64 (idiv b c)) ∧ w' = w := by
  by_cases h0 : c = 0
  · have e : idiv b c = 0 := by rw [h0]; simp [idiv, wrap64]
    rw [e]
    have t : (c == 0) = true := by simp [h0]
    clear h0 e
    go_enter Tryd.func45, Tryd.ntmps45
    go_wp2
    go_ret
    exact ⟨rfl, rfl⟩
  · have t : (c == 0) = false := by simp [h0]
    have s1 := size_any b hb
    have s2 := size_any c hc
    have e1 := tdiv_like b c
    have e2 := tdiv_unlike b c
    have l1 : b.natAbs ≤ 9223372036854775808 := by unfold Fits at hb; omega
    have l2 : 0 < c.natAbs := by omega
    have l3 : b.natAbs / c.natAbs ≤ b.natAbs := Nat.div_le_self _ _
    unfold idiv
    have E1 : Hid _ := e1
    have E2 : Hid _ := e2
    clear e1 e2 h0
    have eq : ((b.natAbs : Nat) : Int) / ((c.natAbs : Nat) : Int) = ((b.natAbs / c.natAbs : Nat) : Int) := by simp
    obtain ⟨q, hq⟩ : ∃ q, b.natAbs / c.natAbs = q := ⟨_, rfl⟩
    rw [hq] at eq l3
    have HQ : Hid (b.natAbs / c.natAbs = q) := hq
    clear hq
    obtain ⟨B, hB⟩ : ∃ B, b.natAbs = B := ⟨_, rfl⟩
    obtain ⟨C, hC⟩ : ∃ C, c.natAbs = C := ⟨_, rfl⟩
    rw [hB] at s1 l1 l3 eq
    rw [hC] at s2 l2 eq
    have HB : Hid (b.natAbs = B) := hB
    have HC : Hid (c.natAbs = C) := hC
    clear hB hC
    have t2 : ((C : Int) == 0) = false := by simp; omega
    go_enter Tryd.func45, Tryd.ntmps45
    go_wp2_with fail
    refine (s1 _).mono ?_
    rintro e w' ⟨rfl, rfl⟩
    go_wp2_with fail
    refine (s2 _).mono ?_
    rintro e w1 ⟨rfl, rfl⟩
    by_cases hb0 : b < 0
    · by_cases hc0 : c < 0
      · have H := E1.out (by simp [hb0, hc0])
        rw [HQ.out] at H
        have hx : Hid _ := H
        clear H E1 E2
        go_wp2
        go_ret
        refine ⟨ret_int ?_, rfl⟩
        rw [hx.out]
      · have H := E2.out (by simp [hb0, hc0])
        rw [HQ.out] at H
        have hx : Hid _ := H
        have hd : decide (c < 0) = false := decide_eq_false hc0
        clear H E1 E2 hc0
        go_wp2
        go_ret
        refine ⟨ret_int ?_, rfl⟩
        rw [hx.out, wrap64_u64]
    · have hd : decide (b < 0) = false := decide_eq_false hb0
      by_cases hc0 : c < 0
      · have H := E2.out (by simp [hb0, hc0])
        rw [HQ.out] at H
        have hx : Hid _ := H
        clear H E1 E2 hb0
        go_wp2
        go_ret
        refine ⟨ret_int ?_, rfl⟩
        rw [hx.out, wrap64_u64]
      · have H := E1.out (by simp [hb0, hc0])
        rw [HQ.out] at H
        have hx : Hid _ := H
        have hd : decide (c < 0) = false := decide_eq_false hc0
        clear H E1 E2 hc0 hb0
        go_wp2
        go_ret
        refine ⟨ret_int ?_, rfl⟩
        rw [hx.out]

set_option maxHeartbeats 1000000 in
theorem up_any (b c : Int) (hb : Fits b) (hc : Fits c) (w : World) :
    Calls Tryd.prog 47 #[.int .i64 b, .int .i64 c] w fun e w' => e = .returned (.int .i64 (ishl b c)) ∧ w' = w := by
  by_cases h0 : c < 0
  · rw [shl_neg b c h0]
    have hd : decide (0 < c) = false := decide_eq_false (by omega)
    go_enter Tryd.func47, Tryd.ntmps47
    go_wp2
    go_loop [0, 5] (fun v i => v = .int .i64 b ∧ i = .int .i64 0) (fun _ _ => 0)
    case atStart => exact ⟨rfl, rfl⟩
    case round =>
      obtain ⟨rfl, rfl⟩ := hrel
      go_wp2
      go_ret
      exact ⟨rfl, rfl⟩
  · obtain ⟨C, rfl⟩ := Int.eq_ofNat_of_zero_le (show 0 ≤ c by omega)
    clear h0
    rw [← up_end]
    obtain ⟨n, hn⟩ : ∃ n, min C 64 = n := ⟨_, rfl⟩
    rw [hn]
    have hn1 : n ≤ 64 ∧ n ≤ C ∧ (n < 64 → n = C) := by omega
    have HZ : Hid _ := up_zero b hb
    have HN : Hid _ := hn1.2.2
    obtain ⟨m1, m2, _⟩ := hn1
    clear hn
    unfold Fits at hc
    go_enter Tryd.func47, Tryd.ntmps47
    go_wp2
    go_loop [0, 5] (fun v i => ∃ (k : Nat) (x : Int), k ≤ n ∧ Fits x ∧ v = .int .i64 x ∧ i = .int .i64 k ∧ Hid (x = wrap64 (b * pw k))) (fun _ i => n - (intOf i).toNat)
    case atStart => exact ⟨0, b, Nat.zero_le _, hb, rfl, rfl, HZ.out.symm⟩
    case round =>
      obtain ⟨k, x, hk, hx, rfl, rfl, H⟩ := hrel
      by_cases hlt : k < n
      · have g1 : (k : Int) < (C : Int) := by omega
        have g2 : (k : Int) < 64 := by omega
        have H2 : Hid (wrap64 (x + x) = wrap64 (b * pw (k + 1))) := by
          show _ = _
          rw [H.out]; exact up_step b k
        go_wp2
        go_round
        case rel => exact ⟨k + 1, _, by omega, wrap64_fits _, rfl, by go_num, H2⟩
        case measure => simp [intOf]; omega
      · have ek : Hid (k = n) := by show _ = _; omega
        by_cases h64 : n < 64
        · have g1 : decide ((k : Int) < (C : Int)) = false := decide_eq_false (by have := HN.out h64; have := ek.out; omega)
          go_wp2
          go_ret
          exact ⟨ret_int (by rw [H.out, ek.out]), rfl⟩
        · have g2 : decide ((k : Int) < 64) = false := decide_eq_false (by have := ek.out; omega)
          by_cases g1 : (k : Int) < (C : Int)
          · go_wp2
            go_ret
            exact ⟨ret_int (by rw [H.out, ek.out]), rfl⟩
          · have g1 : decide ((k : Int) < (C : Int)) = false := decide_eq_false g1
            go_wp2
            go_ret
            exact ⟨ret_int (by rw [H.out, ek.out]), rfl⟩

set_option maxHeartbeats 1000000 in
theorem down_any (b c : Int) (hb : Fits b) (hc : Fits c) (w : World) :
    Calls Tryd.prog 48 #[.int .i64 b, .int .i64 c] w fun e w' => e = .returned (.int .i64 (ishr b c)) ∧ w' = w := by
  by_cases h0 : c < 0
  · rw [shr_neg b c h0]
    have hd : decide (0 < c) = false := decide_eq_false (by omega)
    go_enter Tryd.func48, Tryd.ntmps48
    go_wp2
    go_loop [0, 5] (fun v i => v = .int .i64 b ∧ i = .int .i64 0) (fun _ _ => 0)
    case atStart => exact ⟨rfl, rfl⟩
    case round =>
      obtain ⟨rfl, rfl⟩ := hrel
      go_wp2
      go_ret
      exact ⟨rfl, rfl⟩
  · obtain ⟨C, rfl⟩ := Int.eq_ofNat_of_zero_le (show 0 ≤ c by omega)
    clear h0
    rw [← down_end b hb]
    obtain ⟨n, hn⟩ : ∃ n, min C 64 = n := ⟨_, rfl⟩
    rw [hn]
    have hn1 : n ≤ 64 ∧ n ≤ C ∧ (n < 64 → n = C) := by omega
    have HZ : Hid _ := down_zero b
    have HN : Hid _ := hn1.2.2
    obtain ⟨m1, m2, _⟩ := hn1
    clear hn
    unfold Fits at hc
    go_enter Tryd.func48, Tryd.ntmps48
    go_wp2
    go_loop [0, 5] (fun v i => ∃ (k : Nat) (x : Int), k ≤ n ∧ Fits x ∧ v = .int .i64 x ∧ i = .int .i64 k ∧ Hid (x = b / pw k)) (fun _ i => n - (intOf i).toNat)
    case atStart => exact ⟨0, b, Nat.zero_le _, hb, rfl, rfl, HZ.out.symm⟩
    case round =>
      obtain ⟨k, x, hk, hx, rfl, rfl, H⟩ := hrel
      by_cases hlt : k < n
      · have g1 : (k : Int) < (C : Int) := by omega
        have g2 : (k : Int) < 64 := by omega
        have H2 : Hid (x / 2 = b / pw (k + 1)) := by
          show _ = _
          rw [H.out]; exact down_step b k
        have hf : Fits (x / 2) := by unfold Fits at hx ⊢; omega
        clear H
        by_cases hx0 : x < 0
        · by_cases ho : x % 2 = 1
          · have q1 : (x.tmod 2 != 0) = true := by rw [tmod2_odd x hx0 ho]; rfl
            have q2 : Hid ((x - 1).tdiv 2 = x / 2) := tdiv2_odd x ho
            have q3 : -9223372036854775808 < x := by unfold Fits at hx; omega
            unfold Fits at hx
            clear ho
            go_wp2
            go_round
            case rel => exact ⟨k + 1, x / 2, by omega, hf, by first | rw [q2.out] | rw [q2.out, wrap64_id hf], by go_num, H2⟩
            case measure => simp [intOf]; omega
          · have q1 : (x.tmod 2 != 0) = false := by rw [tmod2_even x (by omega)]; rfl
            have q2 : Hid (x.tdiv 2 = x / 2) := tdiv2_even x (by omega)
            unfold Fits at hx
            clear ho
            go_wp2
            go_round
            case rel => exact ⟨k + 1, x / 2, by omega, hf, by first | rw [q2.out] | rw [q2.out, wrap64_id hf], by go_num, H2⟩
            case measure => simp [intOf]; omega
        · have q0 : decide (x < 0) = false := decide_eq_false hx0
          have q1 : 0 ≤ x := by omega
          unfold Fits at hx
          clear hx0
          go_wp2
          go_round
          case rel => exact ⟨k + 1, x / 2, by omega, hf, rfl, by go_num, H2⟩
          case measure => simp [intOf]; omega
      · have ek : Hid (k = n) := by show _ = _; omega
        by_cases h64 : n < 64
        · have g1 : decide ((k : Int) < (C : Int)) = false := decide_eq_false (by have := HN.out h64; have := ek.out; omega)
          go_wp2
          go_ret
          exact ⟨ret_int (by rw [H.out, ek.out]), rfl⟩
        · have g2 : decide ((k : Int) < 64) = false := decide_eq_false (by have := ek.out; omega)
          by_cases g1 : (k : Int) < (C : Int)
          · go_wp2
            go_ret
            exact ⟨ret_int (by rw [H.out, ek.out]), rfl⟩
          · have g1 : decide ((k : Int) < (C : Int)) = false := decide_eq_false g1
            go_wp2
            go_ret
            exact ⟨ret_int (by rw [H.out, ek.out]), rfl⟩

set_option maxRecDepth 100000 in
set_option maxHeartbeats 1000000 in
theorem bits_any (b c : Int) (X Y : Nat) (hX : X < 18446744073709551616) (hY : Y < 18446744073709551616) (eX : IntKind.u64.wrap b = (X : Int)) (eY : IntKind.u64.wrap c = (Y : Int)) (f : Bool → Bool → Bool) (w : World) :
    Calls Tryd.prog 46 #[.int .i64 b, .int .i64 c, .agg #[.int .u64 (tv (f false false)), .int .u64 (tv (f false true)), .int .u64 (tv (f true false)), .int .u64 (tv (f true true))]] w
      fun e w' => e = .returned (.int .i64 (wrap64 (ofTo (fun i => f (X.testBit i) (Y.testBit i)) 64 : Nat))) ∧ Below w.heap.size w w' := by
  go_enter Tryd.func46, Tryd.ntmps46
  go_wp2
  go_loopw [9, 10] (fun o i wr => ∃ k : Nat, k ≤ 64 ∧ i = .int .i64 k ∧ o = .int .u64 (ofTo (fun i => f (X.testBit i) (Y.testBit i)) k : Nat) ∧ ∃ n, wr = (w.alloc (.cells #[.int .u64 (tv (f false false)), .int .u64 (tv (f false true)), .int .u64 (tv (f true false)), .int .u64 (tv (f true true))] 77)).drewN n) (fun _ i _ => 64 - (intOf i).toNat)
  case atStart => exact ⟨0, Nat.zero_le _, rfl, rfl, 0, rfl⟩
  case round =>
    obtain ⟨k, hk, rfl, rfl, n, rfl⟩ := hrel
    have hl := ofTo_lt (fun i => f (X.testBit i) (Y.testBit i)) k hk
    by_cases hlt : k < 64
    · have hk0 : (0 : Int) ≤ (k : Int) := by omega
      have hk1 : (k : Int) < 64 := by omega
      have eP : (X : Int) / 2 ^ k = ((X / 2 ^ k : Nat) : Int) := by simp
      have eQ : (Y : Int) / 2 ^ k = ((Y / 2 ^ k : Nat) : Int) := by simp
      have aP := bit_of X k hX
      have aQ := bit_of Y k hY
      have hp : X / 2 ^ k < 18446744073709551616 := Nat.lt_of_le_of_lt (Nat.div_le_self _ _) hX
      have hq : Y / 2 ^ k < 18446744073709551616 := Nat.lt_of_le_of_lt (Nat.div_le_self _ _) hY
      have HS : Hid (ofTo (fun i => f (X.testBit i) (Y.testBit i)) (k + 1) = if f (X.testBit k) (Y.testBit k) = true then ofTo (fun i => f (X.testBit i) (Y.testBit i)) k ||| onlyN k else ofTo (fun i => f (X.testBit i) (Y.testBit i)) k) := rfl
      generalize X / 2 ^ k = P at *
      generalize Y / 2 ^ k = Q at *
      obtain ⟨x, hx⟩ : ∃ x, X.testBit k = x := ⟨_, rfl⟩
      obtain ⟨y, hy⟩ : ∃ y, Y.testBit k = y := ⟨_, rfl⟩
      rw [hx] at aP HS
      rw [hy] at aQ HS
      clear hx hy
      generalize ofTo (fun i => f (X.testBit i) (Y.testBit i)) k = O at *
      cases x <;> cases y
      all_goals
        simp only [tv] at aP aQ
        go_wp2_with fail
        go_quiet (fail)
        go_wp2
        exact ⟨⟨k + 1, by omega, by go_num, by rw [HS.out]; exact congrArg (Value.int .u64) (or_bit O k _ hl hlt), _, rfl⟩, by simp [intOf]; omega⟩
    · have ek : Hid (k = 64) := by show _ = _; omega
      have g2 : decide ((k : Int) < 64) = false := decide_eq_false (by have := ek.out; omega)
      go_wp2
      go_ret
      refine ⟨ret_int (by rw [ek.out]), ?_⟩
      exact below_drewN ((Below.refl _ _).alloc (Nat.le_refl _) _) n
end Go.Proofs.YtfkdaimhdjaefaaDoor.Alu

/- The document's answer at each instruction, and AluDoes. -/
namespace Go.Proofs.YtfkdaimhdjaefaaDoor.Alu
open Go.RowKit

theorem wrap64_toNat (x : BitVec 64) : wrap64 (x.toNat : Int) = x.toInt := by
  rw [← bmod_wrap, BitVec.ofInt_natCast, BitVec.ofNat_toNat]
  simp
theorem nat_lt (b : Int) : (BitVec.ofInt 64 b).toNat < 18446744073709551616 := (BitVec.ofInt 64 b).isLt

theorem rbits_and (b c : Int) (w : World) :
    Calls Tryd.prog 46 #[.int .i64 b, .int .i64 c, .agg #[.int .u64 0, .int .u64 0, .int .u64 0, .int .u64 1]] w fun e w' => e = .returned (.int .i64 (iand b c)) ∧ Below w.heap.size w w' := by
  have h := bits_any b c _ _ (nat_lt b) (nat_lt c) (ofInt_nat b).symm (ofInt_nat c).symm (fun x y => x && y) w
  rw [bits_end (fun x y => x && y) (fun x y => x &&& y) (fun x y i _ => by simp only [BitVec.toNat_and, Nat.testBit_and]) (BitVec.ofInt 64 b) (BitVec.ofInt 64 c), wrap64_toNat, ← iand_bv] at h
  exact h

theorem rbits_or (b c : Int) (w : World) :
    Calls Tryd.prog 46 #[.int .i64 b, .int .i64 c, .agg #[.int .u64 0, .int .u64 1, .int .u64 1, .int .u64 1]] w fun e w' => e = .returned (.int .i64 (ior b c)) ∧ Below w.heap.size w w' := by
  have h := bits_any b c _ _ (nat_lt b) (nat_lt c) (ofInt_nat b).symm (ofInt_nat c).symm (fun x y => x || y) w
  rw [bits_end (fun x y => x || y) (fun x y => x ||| y) (fun x y i _ => by simp only [BitVec.toNat_or, Nat.testBit_or]) (BitVec.ofInt 64 b) (BitVec.ofInt 64 c), wrap64_toNat, ← ior_bv] at h
  exact h

theorem rbits_xor (b c : Int) (w : World) :
    Calls Tryd.prog 46 #[.int .i64 b, .int .i64 c, .agg #[.int .u64 0, .int .u64 1, .int .u64 1, .int .u64 0]] w fun e w' => e = .returned (.int .i64 (ixor b c)) ∧ Below w.heap.size w w' := by
  have h := bits_any b c _ _ (nat_lt b) (nat_lt c) (ofInt_nat b).symm (ofInt_nat c).symm (fun x y => Bool.xor x y) w
  rw [bits_end (fun x y => Bool.xor x y) (fun x y => x ^^^ y) (fun x y i _ => by simp only [BitVec.toNat_xor, Nat.testBit_xor]) (BitVec.ofInt 64 b) (BitVec.ofInt 64 c), wrap64_toNat, ← ixor_bv] at h
  exact h

set_option maxRecDepth 100000 in
set_option maxHeartbeats 1000000 in
theorem r_add (b c : Int) (w : World) :
    Calls Tryd.prog 30 #[.int .i64 3, .int .i64 b, .int .i64 c] w fun e w' => e = .returned (.tuple #[.int .i64 (iadd b c), .int .i64 0]) ∧ Below w.heap.size w w' := by
  go_enter Tryd.func30, Tryd.ntmps30
  go_wp2
  go_ret2
  exact ⟨rfl, Below.refl _ _⟩

set_option maxRecDepth 100000 in
set_option maxHeartbeats 1000000 in
theorem r_sub (b c : Int) (w : World) :
    Calls Tryd.prog 30 #[.int .i64 4, .int .i64 b, .int .i64 c] w fun e w' => e = .returned (.tuple #[.int .i64 (isub b c), .int .i64 0]) ∧ Below w.heap.size w w' := by
  go_enter Tryd.func30, Tryd.ntmps30
  go_wp2
  go_ret2
  exact ⟨rfl, Below.refl _ _⟩

set_option maxRecDepth 100000 in
set_option maxHeartbeats 1000000 in
theorem r_mul (b c : Int) (w : World) :
    Calls Tryd.prog 30 #[.int .i64 5, .int .i64 b, .int .i64 c] w fun e w' => e = .returned (.tuple #[.int .i64 (imul b c), .int .i64 0]) ∧ Below w.heap.size w w' := by
  go_enter Tryd.func30, Tryd.ntmps30
  go_wp2
  go_ret2
  exact ⟨rfl, Below.refl _ _⟩

set_option maxRecDepth 100000 in
set_option maxHeartbeats 1000000 in
theorem r_div (b c : Int) (hb : Fits b) (hc : Fits c) (w : World) :
    Calls Tryd.prog 30 #[.int .i64 6, .int .i64 b, .int .i64 c] w fun e w' => e = .returned (.tuple #[.int .i64 (idiv b c), .int .i64 0]) ∧ Below w.heap.size w w' := by
  go_enter Tryd.func30, Tryd.ntmps30
  go_wp2_with (go_at_call 45; refine (by_any b c hb hc _).mono ?_; rintro e w' ⟨rfl, rfl⟩)
  go_ret2
  exact ⟨rfl, Below.refl _ _⟩

set_option maxRecDepth 100000 in
set_option maxHeartbeats 1000000 in
theorem r_rem (b c : Int) (hb : Fits b) (hc : Fits c) (w : World) :
    Calls Tryd.prog 30 #[.int .i64 7, .int .i64 b, .int .i64 c] w fun e w' => e = .returned (.tuple #[.int .i64 (irem b c), .int .i64 0]) ∧ Below w.heap.size w w' := by
  unfold irem
  go_enter Tryd.func30, Tryd.ntmps30
  go_wp2_with (go_at_call 45; refine (by_any b c hb hc _).mono ?_; rintro e w' ⟨rfl, rfl⟩)
  go_ret2
  exact ⟨rfl, Below.refl _ _⟩

set_option maxRecDepth 100000 in
set_option maxHeartbeats 1000000 in
theorem r_and (b c : Int) (w : World) :
    Calls Tryd.prog 30 #[.int .i64 8, .int .i64 b, .int .i64 c] w fun e w' => e = .returned (.tuple #[.int .i64 (iand b c), .int .i64 0]) ∧ Below w.heap.size w w' := by
  go_enter Tryd.func30, Tryd.ntmps30
  go_wp2_with (go_at_call 46; refine (rbits_and b c _).mono ?_; rintro e w' ⟨rfl, hb⟩)
  go_ret2
  exact ⟨rfl, hb⟩

set_option maxRecDepth 100000 in
set_option maxHeartbeats 1000000 in
theorem r_or (b c : Int) (w : World) :
    Calls Tryd.prog 30 #[.int .i64 9, .int .i64 b, .int .i64 c] w fun e w' => e = .returned (.tuple #[.int .i64 (ior b c), .int .i64 0]) ∧ Below w.heap.size w w' := by
  go_enter Tryd.func30, Tryd.ntmps30
  go_wp2_with (go_at_call 46; refine (rbits_or b c _).mono ?_; rintro e w' ⟨rfl, hb⟩)
  go_ret2
  exact ⟨rfl, hb⟩

set_option maxRecDepth 100000 in
set_option maxHeartbeats 1000000 in
theorem r_xor (b c : Int) (w : World) :
    Calls Tryd.prog 30 #[.int .i64 10, .int .i64 b, .int .i64 c] w fun e w' => e = .returned (.tuple #[.int .i64 (ixor b c), .int .i64 0]) ∧ Below w.heap.size w w' := by
  go_enter Tryd.func30, Tryd.ntmps30
  go_wp2_with (go_at_call 46; refine (rbits_xor b c _).mono ?_; rintro e w' ⟨rfl, hb⟩)
  go_ret2
  exact ⟨rfl, hb⟩

set_option maxRecDepth 100000 in
set_option maxHeartbeats 1000000 in
theorem r_shl (b c : Int) (hb : Fits b) (hc : Fits c) (w : World) :
    Calls Tryd.prog 30 #[.int .i64 11, .int .i64 b, .int .i64 c] w fun e w' => e = .returned (.tuple #[.int .i64 (ishl b c), .int .i64 0]) ∧ Below w.heap.size w w' := by
  go_enter Tryd.func30, Tryd.ntmps30
  go_wp2_with (go_at_call 47; refine (up_any b c hb hc _).mono ?_; rintro e w' ⟨rfl, rfl⟩)
  go_ret2
  exact ⟨rfl, Below.refl _ _⟩

set_option maxRecDepth 100000 in
set_option maxHeartbeats 1000000 in
theorem r_shr (b c : Int) (hb : Fits b) (hc : Fits c) (w : World) :
    Calls Tryd.prog 30 #[.int .i64 12, .int .i64 b, .int .i64 c] w fun e w' => e = .returned (.tuple #[.int .i64 (ishr b c), .int .i64 0]) ∧ Below w.heap.size w w' := by
  go_enter Tryd.func30, Tryd.ntmps30
  go_wp2_with (go_at_call 48; refine (down_any b c hb hc _).mono ?_; rintro e w' ⟨rfl, rfl⟩)
  go_ret2
  exact ⟨rfl, Below.refl _ _⟩

set_option maxRecDepth 100000 in
set_option maxHeartbeats 1000000 in
theorem r_less (b c : Int) (w : World) :
    Calls Tryd.prog 30 #[.int .i64 13, .int .i64 b, .int .i64 c] w fun e w' => e = .returned (.tuple #[.int .i64 (iless b c), .int .i64 0]) ∧ Below w.heap.size w w' := by
  unfold iless
  by_cases h : b < c
  · have h1 : decide (b < c) = true := by simp [h]
    rw [if_pos h]
    clear h
    go_enter Tryd.func30, Tryd.ntmps30
    go_wp2_with (go_at_call 49; refine (truth_any true _).mono ?_; rintro e w' ⟨rfl, rfl⟩)
    go_ret2
    exact ⟨rfl, Below.refl _ _⟩
  · have h1 : decide (b < c) = false := by simp [h]
    rw [if_neg h]
    clear h
    go_enter Tryd.func30, Tryd.ntmps30
    go_wp2_with (go_at_call 49; refine (truth_any false _).mono ?_; rintro e w' ⟨rfl, rfl⟩)
    go_ret2
    exact ⟨rfl, Below.refl _ _⟩

set_option maxRecDepth 100000 in
set_option maxHeartbeats 1000000 in
theorem r_equal (b c : Int) (w : World) :
    Calls Tryd.prog 30 #[.int .i64 14, .int .i64 b, .int .i64 c] w fun e w' => e = .returned (.tuple #[.int .i64 (iequal b c), .int .i64 0]) ∧ Below w.heap.size w w' := by
  unfold iequal
  by_cases h : b = c
  · have h1 : (b == c) = true := by simp [h]
    rw [if_pos h]
    clear h
    go_enter Tryd.func30, Tryd.ntmps30
    go_wp2_with (go_at_call 49; refine (truth_any true _).mono ?_; rintro e w' ⟨rfl, rfl⟩)
    go_ret2
    exact ⟨rfl, Below.refl _ _⟩
  · have h1 : (b == c) = false := by simp [h]
    rw [if_neg h]
    clear h
    go_enter Tryd.func30, Tryd.ntmps30
    go_wp2_with (go_at_call 49; refine (truth_any false _).mono ?_; rintro e w' ⟨rfl, rfl⟩)
    go_ret2
    exact ⟨rfl, Below.refl _ _⟩

set_option maxRecDepth 100000 in
set_option maxHeartbeats 1000000 in
theorem r_none (op b c : Int) (h : op < 3 ∨ 14 < op) (w : World) :
    Calls Tryd.prog 30 #[.int .i64 op, .int .i64 b, .int .i64 c] w fun e w' => e = .returned (.tuple #[.int .i64 0, .int .i64 9]) ∧ Below w.heap.size w w' := by
  have t3 : (op == 3) = false := by rw [beq_eq_false_iff_ne]; omega
  have t4 : (op == 4) = false := by rw [beq_eq_false_iff_ne]; omega
  have t5 : (op == 5) = false := by rw [beq_eq_false_iff_ne]; omega
  have t6 : (op == 6) = false := by rw [beq_eq_false_iff_ne]; omega
  have t7 : (op == 7) = false := by rw [beq_eq_false_iff_ne]; omega
  have t8 : (op == 8) = false := by rw [beq_eq_false_iff_ne]; omega
  have t9 : (op == 9) = false := by rw [beq_eq_false_iff_ne]; omega
  have t10 : (op == 10) = false := by rw [beq_eq_false_iff_ne]; omega
  have t11 : (op == 11) = false := by rw [beq_eq_false_iff_ne]; omega
  have t12 : (op == 12) = false := by rw [beq_eq_false_iff_ne]; omega
  have t13 : (op == 13) = false := by rw [beq_eq_false_iff_ne]; omega
  have t14 : (op == 14) = false := by rw [beq_eq_false_iff_ne]; omega
  clear h
  go_enter Tryd.func30, Tryd.ntmps30
  go_wp2
  go_ret2
  exact ⟨rfl, Below.refl _ _⟩

/-- Both tell the same. -/
theorem both (op b c : Int) (hb : Fits b) (hc : Fits c) : ∃ x e : Int,
    (∀ w, Calls Tryd.prog 26 #[.int .i64 op, .int .i64 b, .int .i64 c] w fun r w' => r = .returned (.tuple #[.int .i64 x, .int .i64 e]) ∧ Below w.heap.size w w') ∧
    (∀ w, Calls Tryd.prog 30 #[.int .i64 op, .int .i64 b, .int .i64 c] w fun r w' => r = .returned (.tuple #[.int .i64 x, .int .i64 e]) ∧ Below w.heap.size w w') := by
  by_cases h1 : op < 3
  · exact ⟨0, 9, do_below op b c h1, r_none op b c (.inl h1)⟩
  by_cases h2 : 14 < op
  · exact ⟨0, 9, do_above op b c h2, r_none op b c (.inr h2)⟩
  have h3 : op = 3 ∨ op = 4 ∨ op = 5 ∨ op = 6 ∨ op = 7 ∨ op = 8 ∨ op = 9 ∨ op = 10 ∨ op = 11 ∨ op = 12 ∨ op = 13 ∨ op = 14 := by omega
  rcases h3 with rfl | rfl | rfl | rfl | rfl | rfl | rfl | rfl | rfl | rfl | rfl | rfl
  · exact ⟨_, _, do_add b c, r_add b c⟩
  · exact ⟨_, _, do_sub b c, r_sub b c⟩
  · exact ⟨_, _, do_mul b c, r_mul b c⟩
  · exact ⟨_, _, do_div b c, r_div b c hb hc⟩
  · exact ⟨_, _, do_rem b c, r_rem b c hb hc⟩
  · exact ⟨_, _, do_and b c, r_and b c⟩
  · exact ⟨_, _, do_or b c, r_or b c⟩
  · exact ⟨_, _, do_xor b c, r_xor b c⟩
  · exact ⟨_, _, do_shl b c, r_shl b c hb hc⟩
  · exact ⟨_, _, do_shr b c, r_shr b c hb hc⟩
  · exact ⟨_, _, do_less b c, r_less b c⟩
  · exact ⟨_, _, do_equal b c, r_equal b c⟩

end Go.Proofs.YtfkdaimhdjaefaaDoor.Alu
