/- math/bits.OnesCount64 and label.Count. -/
import Derived.Test.YtjjhfmiegoohlaaDoorW1
import Derived.Test.YtjjhfmiegoohlaaDoorM3
import Derived.Laws.Bits128
namespace Go.Proofs.YtjjhfmiegoohlaaDoor
open Go.RowKit

theorem wrapNat (n : Nat) (h : n < 18446744073709551616) : IntKind.u64.wrap (n : Int) = (n : Int) := by
  rw [IntKind.wrap_u64]
  exact Int.emod_eq_of_lt (by omega) (by omega)

theorem ones_e1 (a : Nat) (ha : a < 18446744073709551616) : IntKind.u64.wrap (bits .and .u64 ((a : Int) / 2) 6148914691236517205 + bits .and .u64 (a : Int) 6148914691236517205) = ((s1 a 8 : Nat) : Int) := by
  have h1 := u64_and_nat (a / 2) 6148914691236517205 (by omega) (by decide)
  have h2 := u64_and_nat a 6148914691236517205 ha (by decide)
  rw [show ((a / 2 : Nat) : Int) = (a : Int) / 2 by omega] at h1
  have b1 : (a / 2 &&& 6148914691236517205) ≤ 6148914691236517205 := Nat.and_le_right
  have b2 : (a &&& 6148914691236517205) ≤ 6148914691236517205 := Nat.and_le_right
  have e : s1 a 8 = (a / 2 &&& 6148914691236517205) + (a &&& 6148914691236517205) := by unfold s1; rw [mask85]
  rw [e]
  erw [h1, h2]
  rw [← Int.natCast_add]
  exact wrapNat _ (by omega)

theorem s1_lt (a : Nat) : s1 a 8 ≤ 12297829382473034410 := by
  have b1 : (a / 2 &&& mask 85 8) ≤ mask 85 8 := Nat.and_le_right
  have b2 : (a &&& mask 85 8) ≤ mask 85 8 := Nat.and_le_right
  unfold s1
  rw [mask85] at *
  omega
theorem s2_lt (a : Nat) : s2 a 8 ≤ 7378697629483820646 := by
  have b1 : (a / 4 &&& mask 51 8) ≤ mask 51 8 := Nat.and_le_right
  have b2 : (a &&& mask 51 8) ≤ mask 51 8 := Nat.and_le_right
  unfold s2
  rw [mask51] at *
  omega

theorem ones_e2 (a : Nat) (ha : a < 18446744073709551616) : IntKind.u64.wrap (bits .and .u64 ((a : Int) / 4) 3689348814741910323 + bits .and .u64 (a : Int) 3689348814741910323) = ((s2 a 8 : Nat) : Int) := by
  have h1 := u64_and_nat (a / 4) 3689348814741910323 (by omega) (by decide)
  have h2 := u64_and_nat a 3689348814741910323 ha (by decide)
  rw [show ((a / 4 : Nat) : Int) = (a : Int) / 4 by omega] at h1
  have b1 : (a / 4 &&& 3689348814741910323) ≤ 3689348814741910323 := Nat.and_le_right
  have b2 : (a &&& 3689348814741910323) ≤ 3689348814741910323 := Nat.and_le_right
  have e : s2 a 8 = (a / 4 &&& 3689348814741910323) + (a &&& 3689348814741910323) := by unfold s2; rw [mask51]
  rw [e]
  erw [h1, h2]
  rw [← Int.natCast_add]
  exact wrapNat _ (by omega)

theorem ones_e3 (a : Nat) (ha : a ≤ 7378697629483820646) : bits .and .u64 ((a : Int) / 16 + (a : Int)) 1085102592571150095 = ((s3 a 8 : Nat) : Int) := by
  have h1 := u64_and_nat (a / 16 + a) 1085102592571150095 (by omega) (by decide)
  have e : s3 a 8 = (a / 16 + a &&& 1085102592571150095) := by unfold s3; rw [mask15]
  rw [show ((a / 16 + a : Nat) : Int) = (a : Int) / 16 + (a : Int) by omega] at h1
  rw [e]
  exact h1

set_option maxHeartbeats 400000 in
theorem ones_any (a : Nat) (ha : a < 18446744073709551616) (w : World) :
    Calls Tryd.prog 25 #[.int .u64 a] w fun e w' => e = .returned (.int .i64 (cnt a)) ∧ w' = w := by
  have e1 := ones_e1 a ha
  have l1 := s1_lt a
  obtain ⟨x1, H1⟩ : ∃ x, Hid (x = s1 a 8) := ⟨_, rfl⟩
  rw [← H1.out] at e1 l1
  have e2 := ones_e2 x1 (by omega)
  have l2 := s2_lt x1
  obtain ⟨x2, H2⟩ : ∃ x, Hid (x = s2 x1 8) := ⟨_, rfl⟩
  rw [← H2.out] at e2 l2
  have e3 := ones_e3 x2 (by omega)
  obtain ⟨x3, H3⟩ : ∃ x, Hid (x = s3 x2 8) := ⟨_, rfl⟩
  rw [← H3.out] at e3
  have hp : x3 = pk a 8 := by rw [H3.out, H2.out, H1.out, s321]
  obtain ⟨l3, hs⟩ := pk_sum a x3 hp
  clear hp
  have HS : Hid _ := hs
  clear hs
  go_enter Tryd.func25, Tryd.ntmps25
  go_wp2
  go_ret
  refine ⟨ret_int ?_, rfl⟩
  rw [i64_and127]
  have h := congrArg (Nat.cast : Nat → Int) HS.out
  rw [← h]
  clear e1 e2 e3
  omega

set_option maxHeartbeats 400000 in
theorem count_any (a : Nat) (ha : a < 18446744073709551616) (w : World) :
    Calls Tryd.prog 17 #[.int .u64 a] w fun e w' => e = .returned (.int .i64 (cnt a)) ∧ w' = w := by
  go_enter Tryd.func17, Tryd.ntmps17
  go_wp2_with (go_at_call 25; refine (ones_any a ha _).mono ?_; rintro e w' ⟨rfl, rfl⟩)
  go_ret
  exact ⟨rfl, rfl⟩
end Go.Proofs.YtjjhfmiegoohlaaDoor
