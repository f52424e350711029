/- strconv.Itoa and AppendInt below 100. -/
import Derived.Test.YtjjhfmiegoohlaaDoorW1
import Derived.Lib.AppendStr
import Derived.OwnWalk
namespace Go.Proofs.YtjjhfmiegoohlaaDoor
open Go.RowKit

theorem ret_str {a b : ByteArray} (h : a = b) : Ending.returned (.string a) = .returned (.string b) := by rw [h]


theorem dec_two : ∀ m : Fin 100, 10 ≤ m.val → (ByteArray.extract { data := #[48, 48, 48, 49, 48, 50, 48, 51, 48, 52, 48, 53, 48, 54, 48, 55, 48, 56, 48, 57, 49, 48, 49, 49, 49, 50, 49, 51, 49, 52, 49, 53, 49, 54, 49, 55, 49, 56, 49, 57, 50, 48, 50, 49, 50, 50, 50, 51, 50, 52, 50, 53, 50, 54, 50, 55, 50, 56, 50, 57, 51, 48, 51, 49, 51, 50, 51, 51, 51, 52, 51, 53, 51, 54, 51, 55, 51, 56, 51, 57, 52, 48, 52, 49, 52, 50, 52, 51, 52, 52, 52, 53, 52, 54, 52, 55, 52, 56, 52, 57, 53, 48, 53, 49, 53, 50, 53, 51, 53, 52, 53, 53, 53, 54, 53, 55, 53, 56, 53, 57, 54, 48, 54, 49, 54, 50, 54, 51, 54, 52, 54, 53, 54, 54, 54, 55, 54, 56, 54, 57, 55, 48, 55, 49, 55, 50, 55, 51, 55, 52, 55, 53, 55, 54, 55, 55, 55, 56, 55, 57, 56, 48, 56, 49, 56, 50, 56, 51, 56, 52, 56, 53, 56, 54, 56, 55, 56, 56, 56, 57, 57, 48, 57, 49, 57, 50, 57, 51, 57, 52, 57, 53, 57, 54, 57, 55, 57, 56, 57, 57] } (m.val * 2) (m.val * 2 + 2)).data = (dec m.val).toArray := by decide +kernel

set_option maxRecDepth 100000 in
set_option maxHeartbeats 400000 in
theorem small_any (n : Nat) (h : n < 100) (w : World) :
    Calls Tryd.prog 37 #[.int .i64 n] w fun e w' => e = .returned (.string ⟨(dec n).toArray⟩) ∧ w' = w := by
  by_cases h10 : n < 10
  · go_enter Tryd.func37, Tryd.ntmps37
    go_wp2
    go_ret
    refine ⟨ret_str ?_, rfl⟩
    have : ∀ m : Fin 10, (ByteArray.extract { data := #[48, 49, 50, 51, 52, 53, 54, 55, 56, 57, 97, 98, 99, 100, 101, 102, 103, 104, 105, 106, 107, 108, 109, 110, 111, 112, 113, 114, 115, 116, 117, 118, 119, 120, 121, 122] } m.val (m.val + 1)).data = (dec m.val).toArray := by decide +kernel
    exact congrArg ByteArray.mk (this ⟨n, h10⟩)
  · go_enter Tryd.func37, Tryd.ntmps37
    go_wp2
    go_ret
    refine ⟨ret_str ?_, rfl⟩
    exact congrArg ByteArray.mk (dec_two ⟨n, h⟩ (by simp; omega))

set_option maxHeartbeats 400000 in
theorem itoa_any (n : Nat) (h : n < 100) (w : World) :
    Calls Tryd.prog 27 #[.int .i64 n] w fun e w' => e = .returned (.string ⟨(dec n).toArray⟩) ∧ w' = w := by
  go_enter Tryd.func27, Tryd.ntmps27
  go_wp2_with (first | (go_at_call 37; refine (small_any n h _).mono ?_; rintro e w' ⟨rfl, rfl⟩) | go_in)
  go_ret
  exact ⟨rfl, rfl⟩
theorem info5 : (Tryd.prog.info? 5).map (fun i => (i.zero, i.size, i.bytes)) = some (some (.int .u8 0), 1, 1) := by kernel_rfl

set_option maxRecDepth 100000 in
set_option maxHeartbeats 1000000 in
theorem appendUint_any (B k n : Nat) (h : n < 100) (sv : Value) (xs : List Value) (w : World) (hown : w.ownsRow B 5 1 sv k xs) (hB : B ≤ w.heap.size) (hk : k ≤ 1000) :
    Calls Tryd.prog 35 #[sv, .int .u64 n, .int .i64 10] w fun e w' => ∃ v', e = .returned v' ∧ w'.ownsRow B 5 1 v' (k + (dec n).length) (xs ++ Lib.byteCells (dec n)) ∧ Below B w w' := by
  obtain ⟨i0, hi, hz0, hz1, hz2⟩ := info_parts info5
  have hl := dec_len n
  have hsz : (⟨(dec n).toArray⟩ : ByteArray).size = (dec n).length := by simp [ByteArray.size]
  go_enter Tryd.func35, Tryd.ntmps35
  go_wp2_with (first | (go_at_call 37; refine (small_any n h _).mono ?_; rintro e w' ⟨rfl, rfl⟩) | (at_builtin; refine Lib.wpList_append_own_string _ rfl _ _ 39 9 rfl B 5 i0 Tryd.underlying39 Tryd.underlying9 hi hz0 hz1 hz2 _ _ _ rfl hown ⟨(dec n).toArray⟩ rfl (by rw [hsz]; unfold maxLen; omega) (by rw [hsz]; omega) hB ?_))
  intro v' w1 hown' hgrow _
  go_wp2
  go_ret
  refine ⟨v', rfl, ?_, (Below.refl B _).grown hgrow hB (fun k hk => (hown.lt k hk).1)⟩
  exact hown'

set_option maxRecDepth 100000 in
set_option maxHeartbeats 400000 in
theorem appendInt_any (B k n : Nat) (h : n < 100) (sv : Value) (xs : List Value) (w : World) (hown : w.ownsRow B 5 1 sv k xs) (hB : B ≤ w.heap.size) (hk : k ≤ 1000) :
    Calls Tryd.prog 26 #[sv, .int .i64 n, .int .i64 10] w fun e w' => ∃ v', e = .returned v' ∧ w'.ownsRow B 5 1 v' (k + (dec n).length) (xs ++ Lib.byteCells (dec n)) ∧ Below B w w' := by
  go_enter Tryd.func26, Tryd.ntmps26
  go_wp2_with (first | (go_at_call 35; refine (appendUint_any B k n h sv xs _ hown hB hk).mono ?_; rintro e w' ⟨v', rfl, ho, hb⟩) | go_in)
  go_ret
  exact ⟨v', rfl, ho, hb⟩
end Go.Proofs.YtjjhfmiegoohlaaDoor
