/- FltDoes. -/
import Derived.Test.YtadlppllbebkdaaGreatDoorW32
import Derived.Test.YtadlppllbebkdaaGreatDoorW11
namespace Go.Proofs.YtadlppllbebkdaaGreatDoor
open Go.RowKit

set_option maxRecDepth 100000 in
set_option maxHeartbeats 4000000 in
theorem fltDoes_walk (op b c : Int) (_hop : -9223372036854775808 ≤ op ∧ op ≤ 9223372036854775807) (hb : -9223372036854775808 ≤ b ∧ b ≤ 9223372036854775807) (hc : -9223372036854775808 ≤ c ∧ c ≤ 9223372036854775807) (w : World) (T : Tabs w) :
    Calls Tryz.prog 4 #[.int .i64 op, .int .i64 b, .int .i64 c] w fun e w' => e = .returned (.bool true) ∧ Below w.heap.size w w' := by
  obtain ⟨v, er, g1, g2⟩ := both op b c hb
  have HB := Lib.hid hb
  have HC := Lib.hid hc
  clear hb hc
  have HT := Lib.hid T
  clear T
  go_enter Tryz.func4, Tryz.ntmps4
  go_wp2_with fail
  refine (g1 _).mono ?_
  rintro e w1 ⟨rfl, b1⟩
  go_wp2_with fail
  refine (g2 _).mono ?_
  rintro e w2 ⟨rfl, b2⟩
  replace b1 := b1.trans (b2.mono b1.size)
  clear b2 g1 g2
  go_wp2_with fail
  go_loopw [7, 8, 9, 10, 11] (fun _ _ _ _ vk wr => ∃ k : Nat, vk = .int .i64 k ∧ 14 ≤ k ∧ k ≤ 23 ∧ Below w.heap.size w wr) (fun _ _ _ _ vk _ => 23 - (intOf vk).toNat)
  case atStart => exact ⟨14, rfl, by omega, by omega, b1⟩
  case round =>
    obtain ⟨k, rfl, hk1, hk2, bw⟩ := hrel
    rename World => wr
    by_cases hk : k < 23
    · have d1 : (k : Int) ≤ 22 := by omega
      obtain ⟨v1, e1, g1, g2⟩ := both k b c HB.out
      obtain ⟨v2, e2, g3, g4⟩ := both k c b HC.out
      go_wp2_with fail
      refine (g1 _).mono ?_
      rintro e w3 ⟨rfl, b3⟩
      replace bw := bw.trans (b3.mono bw.size)
      go_wp2_with fail
      refine (g2 _).mono ?_
      rintro e w4 ⟨rfl, b4⟩
      replace bw := bw.trans (b4.mono bw.size)
      clear b3 b4 g1 g2
      go_wp2_with fail
      refine (g3 _).mono ?_
      rintro e w5 ⟨rfl, b5⟩
      replace bw := bw.trans (b5.mono bw.size)
      go_wp2_with fail
      refine (g4 _).mono ?_
      rintro e w6 ⟨rfl, b6⟩
      replace bw := bw.trans (b6.mono bw.size)
      clear b5 b6 g3 g4
      go_wp2_with fail
      go_roundw
      case rel => exact ⟨k + 1, by go_num, by omega, by omega, bw⟩
      case measure => simp [intOf]; omega
    · have d1 : decide ((k : Int) ≤ 22) = false := by simp; omega
      have h9 := fixed_any wr (HT.out.kept bw)
      go_wp2_with (go_at_call 9; refine h9.mono ?_; rintro e w7 ⟨rfl, b7⟩)
      go_ret
      exact ⟨rfl, bw.trans (b7.mono bw.size)⟩
end Go.Proofs.YtadlppllbebkdaaGreatDoor
