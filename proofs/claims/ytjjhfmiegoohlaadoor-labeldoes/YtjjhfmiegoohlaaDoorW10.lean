/- The document's own Print. -/
import Derived.Test.YtjjhfmiegoohlaaDoorW9
import Derived.Laws.Concat
namespace Go.Proofs.YtjjhfmiegoohlaaDoor
open Go.RowKit

set_option maxRecDepth 100000 in
set_option maxHeartbeats 1000000 in
theorem rprint_any (a : Nat) (ha : a < 18446744073709551616) (w : World) :
    Calls Tryd.prog 20 #[.int .u64 a] w fun e w' => e = .returned (.string ⟨(printL a).toArray⟩) ∧ w' = w := by
  go_enter Tryd.func20, Tryd.ntmps20
  go_wp2
  go_loop [3, 4] (fun c i => ∃ k : Nat, k ≤ 64 ∧ i = .int .i64 k ∧ c = .string ⟨(txt a k).toArray⟩) (fun _ i => 64 - (intOf i).toNat)
  case atStart => exact ⟨0, Nat.zero_le _, rfl, rfl⟩
  case round =>
    obtain ⟨k, hk, rfl, rfl⟩ := hrel
    have hl := txt_len a k
    have hd := dec_len k
    have hsz : (⟨(txt a k).toArray⟩ : ByteArray).size = (txt a k).length := by simp [ByteArray.size]
    by_cases hlt : k < 64
    · cases h1 : a.testBit k
      · have H : Hid (txt a (k + 1) = txt a k) := by simp [Hid, txt, h1]
        go_wp2_with (go_at_call 16; refine (rhas_at a k false ha hlt h1 _).mono ?_; rintro e w' ⟨rfl, rfl⟩)
        go_round
        case rel => exact ⟨k + 1, by omega, by go_num, by rw [H.out]⟩
        case measure => simp [intOf]; omega
      · by_cases h2 : 1 < (txt a k).length
        · have H : Hid (txt a (k + 1) = (txt a k ++ [44]) ++ dec k) := by simp [Hid, txt, h1, h2]
          have h2' : (1 : Int) < ((txt a k).length : Int) := by omega
          go_wp2_with (first | (go_at_call 16; refine (rhas_at a k true ha hlt h1 _).mono ?_; rintro e w' ⟨rfl, rfl⟩) | (go_at_call 27; refine (itoa_any k (by omega) _).mono ?_; rintro e w' ⟨rfl, rfl⟩))
          all_goals go_round
          case rel => exact ⟨k + 1, by omega, by go_num, by rw [H.out, show (⟨#[44]⟩ : ByteArray) = ⟨([44] : List UInt8).toArray⟩ from rfl, ByteArray.mk_append_mk, ByteArray.mk_append_mk]⟩
          case measure => simp [intOf]; omega
        · have H : Hid (txt a (k + 1) = txt a k ++ dec k) := by simp [Hid, txt, h1, h2]
          have h2' : decide ((1 : Int) < ((txt a k).length : Int)) = false := by simp; omega
          go_wp2_with (first | (go_at_call 16; refine (rhas_at a k true ha hlt h1 _).mono ?_; rintro e w' ⟨rfl, rfl⟩) | (go_at_call 27; refine (itoa_any k (by omega) _).mono ?_; rintro e w' ⟨rfl, rfl⟩))
          all_goals go_round
          case rel => exact ⟨k + 1, by omega, by go_num, by rw [H.out, ByteArray.mk_append_mk]⟩
          case measure => simp [intOf]; omega
    · obtain rfl : k = 64 := by omega
      go_wp2
      go_ret
      exact ⟨ret_str (by unfold printL; rw [show (⟨#[125]⟩ : ByteArray) = ⟨([125] : List UInt8).toArray⟩ from rfl, ByteArray.mk_append_mk]), rfl⟩
end Go.Proofs.YtjjhfmiegoohlaaDoor
