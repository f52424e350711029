/- The document's whole numbers of any size: low. -/
import Derived.Test.YtalaajniammggaaGreatDoorXVb
import Derived.Deep.RegionWith
import Derived.Test.YtalaajniammggaaGreatDoorXMb
import Derived.Deep.CutRange
import Derived.Deep.MidRow
import Derived.Test.YtalaajniammggaaGreatDoorXXd
namespace Go.Proofs.YtalaajniammggaaGreatDoor
open Go.RowKit
end Go.Proofs.YtalaajniammggaaGreatDoor

/- The document's rounding. -/
namespace Go.Proofs.YtalaajniammggaaGreatDoor
open Go.RowKit
def sgn (s : Bool) : Nat := if s then 9223372036854775808 else 0
end Go.Proofs.YtalaajniammggaaGreatDoor

/- The document's answer: signs, parts, isNaN, product, float. -/
namespace Go.Proofs.YtalaajniammggaaGreatDoor
open Go.RowKit
theorem rung_bits (a : Nat) (h : a < 18446744073709551616) : bits .andNot .u64 (a : Int) 9223372036854775808 = (rungOf a : Int) := by
 have h := u64_andNot_nat a 9223372036854775808 h (by omega)
 rw [show ((9223372036854775808 : Nat) : Int) = 9223372036854775808 from rfl] at h
 rw [h]
 have e : (18446744073709551615 - 9223372036854775808 : Nat) = 2 ^ 63 - 1 := by decide
 rw [e,Nat.and_two_pow_sub_one_eq_mod]
 rfl
theorem and_pow (a : Nat) : a &&& 2 ^ 63 = sgn (negOf a) := by
 have e : sgn (negOf a) = (if negOf a then 2 ^ 63 else 0) := by cases negOf a <;> rfl
 rw [e]
 apply Nat.eq_of_testBit_eq
 intro i
 have hb : negOf a = a.testBit 63 := by
  unfold negOf
  rw [Nat.testBit_eq_decide_div_mod_eq]
  rcases Nat.mod_two_eq_zero_or_one (a / 2 ^ 63) with h | h <;> rw [h] <;> rfl
 rw [Nat.testBit_and,Nat.testBit_two_pow]
 by_cases hi : 63 = i
 ·subst hi
  rw [hb]
  cases a.testBit 63
  ·rw [if_neg (by decide),Nat.zero_testBit]; rfl
  ·rw [if_pos rfl,Nat.testBit_two_pow]; rfl
 ·rw [decide_eq_false hi,Bool.and_false]
  cases negOf a
  ·rw [if_neg (by decide),Nat.zero_testBit]
  ·rw [if_pos rfl,Nat.testBit_two_pow,decide_eq_false hi]
theorem sgn_bits (a : Nat) (h : a < 18446744073709551616) : bits .and .u64 (a : Int) 9223372036854775808 = (sgn (negOf a) : Int) := by
 have h1 := u64_and_nat a 9223372036854775808 h (by omega)
 rw [show ((9223372036854775808 : Nat) : Int) = 9223372036854775808 from rfl] at h1
 rw [h1,show 9223372036854775808 = 2 ^ 63 by rfl,and_pow a]
theorem parts_any (r : Nat) (h : r < INF) (w : World) :
  Calls Tryz.prog 109 #[.int .u64 r] w fun e w' => e = .returned (.tuple #[.int .u64 (magOf r : Nat),.int .i64 ((expOf r : Int) - 1074)]) ∧ w' = w := by
 have hI : INF = 9218868437227405312 := rfl
 obtain ⟨t,ht⟩ : ∃ t,t = r / 4503599627370496 := ⟨_,rfl⟩
 obtain ⟨m,hm⟩ : ∃ m,m = r % 4503599627370496 := ⟨_,rfl⟩
 have e1 : (r : Int) / 4503599627370496 = (t : Int) := by omega
 have e2 : bits .and .u64 (r : Int) 4503599627370495 = (m : Int) := by
  have h1 := u64_and_nat r 4503599627370495 (by omega) (by omega)
  rw [show ((4503599627370495 : Nat) : Int) = 4503599627370495 from rfl] at h1
  rw [h1,show 4503599627370495 = 2 ^ 52 - 1 by rfl,Nat.and_two_pow_sub_one_eq_mod,hm]
 have e3 : bits .or .u64 (m : Int) 4503599627370496 = ((m + 4503599627370496 : Nat) : Int) := by
  have h1 := u64_or_nat m 4503599627370496 (by omega) (by omega)
  rw [show ((4503599627370496 : Nat) : Int) = 4503599627370496 from rfl] at h1
  have h2 := Nat.shiftLeft_add_eq_or_of_lt (i := 52) (show m < 2 ^ 52 by omega) 1
  rw [Nat.shiftLeft_eq,Nat.one_mul] at h2
  rw [h1,Nat.or_comm,show 4503599627370496 = 2 ^ 52 by rfl,← h2,Nat.add_comm]
 have ht2 : t < 2047 := by omega
 by_cases c : t = 0
 ·have f1 : magOf r = m := by unfold magOf; rw [if_pos (by omega)]; omega
  have f2 : expOf r = 0 := by unfold expOf; rw [if_pos (by omega)]
  rw [f1,f2]
  have c1 : ((t : Int) == 0) = true := by simp [c]
  clear c f1 f2 ht hm
  go_enter Tryz.func109,Tryz.ntmps109
  go_wp2_with fail
  go_ret2
  exact ⟨rfl,rfl⟩
 ·have f1 : magOf r = m + 4503599627370496 := by unfold magOf; rw [if_neg (by omega)]; omega
  have f2 : (expOf r : Int) - 1074 = (t : Int) - 1075 := by unfold expOf; rw [if_neg (by omega)]; omega
  rw [f1,f2]
  have c1 : ((t : Int) == 0) = false := by simp; omega
  clear c f1 f2 ht hm
  go_enter Tryz.func109,Tryz.ntmps109
  go_wp2_with fail
  go_ret2
  exact ⟨rfl,rfl⟩
theorem times_num (v : Value) (N m : Nat) (hN : N < BB ^ 400) (hm : m < BB) (w : World) (h : Num w v N) :
  Calls Tryz.prog 121 #[v,.int .u32 m] w fun e w' => ∃ v',e = .returned v' ∧ Num w' v' (m * N) ∧ Below w.heap.size w w' := by
 obtain ⟨l,h1,h2,h3⟩ := h
 have hl := norm_len l h2 400 (by rw [h3]; exact hN)
 have := times_any v l m (by omega) hm w h1
 rw [h3] at this
 exact this
end Go.Proofs.YtalaajniammggaaGreatDoor
