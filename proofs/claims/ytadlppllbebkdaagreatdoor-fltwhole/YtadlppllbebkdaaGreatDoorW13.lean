/- FltWhole: whole numbers there and back. -/
import Derived.Test.YtadlppllbebkdaaGreatDoorW11
import Derived.Test.YtadlppllbebkdaaGreatDoorW12
import Derived.Deep.CutRange
import Derived.Deep.MidRow
namespace Go.Proofs.YtadlppllbebkdaaGreatDoor
open Go.RowKit

set_option maxRecDepth 100000 in
set_option maxHeartbeats 4000000 in
theorem fltWhole_walk (n m : Int) (hn : -9223372036854775808 ≤ n ∧ n ≤ 9223372036854775807) (_hm : -9223372036854775808 ≤ m ∧ m ≤ 9223372036854775807) (w : World) (T : Tabs w) :
    Calls Tryz.prog 8 #[.int .i64 n, .int .i64 m] w fun e w' => e = .returned (.bool true) ∧ Below w.heap.size w w' := by
  obtain ⟨f1, f2, f3, f4, f5⟩ := fwhole_ofInt n (by omega) (by omega)
  have oa := (ofInt_fine n).2.2
  have ob := (ofInt_fine m).2.2
  have g1 := fun h => fless_ofInt n m h
  have g2 := fun h h1 h2 => fless_small n m h h1 h2
  obtain ⟨X, hX⟩ : ∃ X, X = fwhole (ofInt n) := ⟨_, rfl⟩
  obtain ⟨A, hA⟩ : ∃ A, A = wrap64 (ofInt n : Int) := ⟨_, rfl⟩
  obtain ⟨B, hB⟩ : ∃ B, B = wrap64 (ofInt m : Int) := ⟨_, rfl⟩
  have wA : wd A = ofInt n := by rw [hA, wd_wrap _ oa]
  have wB : wd B = ofInt m := by rw [hB, wd_wrap _ ob]
  rw [← hX] at f1 f2 f3 f4 f5
  have d1 := do16 20 n 0 A (fun w => by rw [hA]; exact do_tofloat n 0 w)
  have d2 := do16 20 m 7 B (fun w => by rw [hB]; exact do_tofloat m 7 w)
  have d3 := do16 21 A 0 X (fun w => by rw [hX, ← wA]; exact do_toint A 0 w)
  have d6 := do16 20 n m A (fun w => by rw [hA]; exact do_tofloat n m w)
  have d7 := do16 21 A m X (fun w => by rw [hX, ← wA]; exact do_toint A m w)
  obtain ⟨L1, hL1⟩ : ∃ L1 : Int, L1 = if fless (ofInt m) (ofInt n) then 1 else 0 := ⟨_, rfl⟩
  obtain ⟨L2, hL2⟩ : ∃ L2 : Int, L2 = if fless (ofInt n) (ofInt m) then 1 else 0 := ⟨_, rfl⟩
  have d4 := do16 19 B A L1 (fun w => by rw [hL1, ← wA, ← wB]; exact do_fless B A w)
  have d5 := do16 19 A B L2 (fun w => by rw [hL2, ← wA, ← wB]; exact do_fless A B w)
  have q1 : n ≤ m → L1 = 0 := fun h => by rw [hL1, g1 h]; rfl
  have q2 : n < m → -9007199254740992 ≤ n → m ≤ 9007199254740992 → L2 = 1 := fun h h1 h2 => by rw [hL2, g2 h h1 h2]; rfl
  have q3 : -9007199254740992 ≤ n → n ≤ 9007199254740992 → X = n := fun h1 h2 => f1 h1 h2
  have hF := fun W (b : Below w.heap.size w W) => fixed_any W (T.kept b)
  clear f1 g1 g2 hL1 hL2 wA wB hA hB hX oa ob T
  have H1 := Lib.hid q1
  have H2 := Lib.hid q2
  have H3 := Lib.hid q3
  clear q1 q2 q3
  go_enter Tryz.func8, Tryz.ntmps8
  go_wp2_with fail
  refine (d1 _).mono ?_
  rintro e w1 ⟨rfl, b1⟩
  go_wp2_with fail
  refine (d2 _).mono ?_
  rintro e w2 ⟨rfl, b2⟩
  replace b1 := b1.trans (b2.mono b1.size); clear b2
  go_wp2_with fail
  refine (d3 _).mono ?_
  rintro e w3 ⟨rfl, b2⟩
  replace b1 := b1.trans (b2.mono b1.size); clear b2
  go_upto_region 3 with fail
  go_cut [25] from 15 to 25 (fun s25 wy => s25 = .bool false ∧ wy = w3)
  case first =>
    clear d1 d2 d3 d4 d5 d6 d7 hF H1 H2
    by_cases c1 : -9007199254740992 ≤ n
    · by_cases c2 : n ≤ 9007199254740992
      · have hx := H3.out c1 c2
        have hx1 : (X != n) = false := by simp [hx]
        clear H3 hx
        go_wp2_with fail
        go_meet
        case rel => exact ⟨rfl, rfl⟩
      · have c3 : decide (n ≤ 9007199254740992) = false := decide_eq_false c2
        clear H3
        go_wp2_with fail
        go_meet
        case rel => exact ⟨rfl, rfl⟩
    · have c3 : decide (n ≥ -9007199254740992) = false := decide_eq_false c1
      clear H3
      go_wp2_with fail
      go_meet
      case rel => exact ⟨rfl, rfl⟩
  case rest =>
    obtain ⟨rfl, rfl⟩ := hcut
    clear H3
    by_cases hlt : X < n
    · obtain ⟨O, hO⟩ : ∃ O, X = n - O := ⟨n - X, by omega⟩
      have o1 : 0 < O := by omega
      have o2 : O ≤ 512 := by omega
      have o3 : n - X = O := by omega
      have o4 : decide (O > 512) = false := decide_eq_false (by omega)
      have o5 : -512 ≤ X - n := by omega
      have o6 : X - n ≤ 0 := by omega
      clear hO
      go_upto_region 8 with fail
      go_cut [68] from 37 to 68 (fun s68 wy => s68 = .bool false ∧ Below w.heap.size w wy)
      case first =>
        clear d1 d2 d3 d6 d7 hF
        by_cases c1 : n ≤ m
        · have hz := H1.out c1
          have hz1 : (L1 == 1) = false := by simp [hz]
          clear H1 hz
          by_cases c2 : n < m
          · by_cases c3 : -9007199254740992 ≤ n
            · by_cases c4 : m ≤ 9007199254740992
              · have hy := H2.out c2 c3 c4
                have hy1 : (L2 != 1) = false := by simp [hy]
                clear H2 hy
                go_wp2_with fail
                refine (d4 _).mono ?_
                rintro e w4 ⟨rfl, b2⟩
                replace b1 := b1.trans (b2.mono b1.size); clear b2
                go_wp2_with fail
                refine (d5 _).mono ?_
                rintro e w5 ⟨rfl, b2⟩
                replace b1 := b1.trans (b2.mono b1.size); clear b2
                go_wp2_with fail
                go_meet
                case rel => exact ⟨rfl, b1⟩
              · have c5 : decide (m ≤ 9007199254740992) = false := decide_eq_false c4
                clear H2
                go_wp2_with fail
                refine (d4 _).mono ?_
                rintro e w4 ⟨rfl, b2⟩
                replace b1 := b1.trans (b2.mono b1.size); clear b2
                go_wp2_with fail
                go_meet
                case rel => exact ⟨rfl, b1⟩
            · have c5 : decide (n ≥ -9007199254740992) = false := decide_eq_false c3
              clear H2
              go_wp2_with fail
              refine (d4 _).mono ?_
              rintro e w4 ⟨rfl, b2⟩
              replace b1 := b1.trans (b2.mono b1.size); clear b2
              go_wp2_with fail
              go_meet
              case rel => exact ⟨rfl, b1⟩
          · have c5 : decide (n < m) = false := decide_eq_false c2
            clear H2
            go_wp2_with fail
            refine (d4 _).mono ?_
            rintro e w4 ⟨rfl, b2⟩
            replace b1 := b1.trans (b2.mono b1.size); clear b2
            go_wp2_with fail
            go_meet
            case rel => exact ⟨rfl, b1⟩
        · have c5 : decide (n ≤ m) = false := decide_eq_false c1
          have c6 : decide (n < m) = false := decide_eq_false (by omega)
          clear H1 H2
          go_wp2_with fail
          go_meet
          case rel => exact ⟨rfl, b1⟩
      case rest =>
        obtain ⟨rfl, b3⟩ := hcut
        clear b1 H1 H2
        have r1 : (A == A) = true := by simp
        have r2 : (X == X) = true := by simp
        go_wp2_with fail
        refine (d6 _).mono ?_
        rintro e w6 ⟨rfl, b2⟩
        replace b3 := b3.trans (b2.mono b3.size); clear b2
        go_wp2_with fail
        refine (d7 _).mono ?_
        rintro e w7 ⟨rfl, b2⟩
        replace b3 := b3.trans (b2.mono b3.size); clear b2
        go_wp2_with fail
        refine (hF _ b3).mono ?_
        rintro e w8 ⟨rfl, b2⟩
        replace b3 := b3.trans (b2.mono b3.size); clear b2
        go_wp2
        go_ret
        exact ⟨rfl, b3⟩
    · have hlt' : decide (X < n) = false := decide_eq_false hlt
      obtain ⟨O, hO⟩ : ∃ O, X = n + O := ⟨X - n, by omega⟩
      have o1 : 0 ≤ O := by omega
      have o2 : O ≤ 512 := by omega
      have o3 : X - n = O := by omega
      have o4 : decide (O > 512) = false := decide_eq_false (by omega)
      clear hO hlt
      go_upto_region 8 with fail
      go_cut [68] from 37 to 68 (fun s68 wy => s68 = .bool false ∧ Below w.heap.size w wy)
      case first =>
        clear d1 d2 d3 d6 d7 hF
        by_cases c1 : n ≤ m
        · have hz := H1.out c1
          have hz1 : (L1 == 1) = false := by simp [hz]
          clear H1 hz
          by_cases c2 : n < m
          · by_cases c3 : -9007199254740992 ≤ n
            · by_cases c4 : m ≤ 9007199254740992
              · have hy := H2.out c2 c3 c4
                have hy1 : (L2 != 1) = false := by simp [hy]
                clear H2 hy
                go_wp2_with fail
                refine (d4 _).mono ?_
                rintro e w4 ⟨rfl, b2⟩
                replace b1 := b1.trans (b2.mono b1.size); clear b2
                go_wp2_with fail
                refine (d5 _).mono ?_
                rintro e w5 ⟨rfl, b2⟩
                replace b1 := b1.trans (b2.mono b1.size); clear b2
                go_wp2_with fail
                go_meet
                case rel => exact ⟨rfl, b1⟩
              · have c5 : decide (m ≤ 9007199254740992) = false := decide_eq_false c4
                clear H2
                go_wp2_with fail
                refine (d4 _).mono ?_
                rintro e w4 ⟨rfl, b2⟩
                replace b1 := b1.trans (b2.mono b1.size); clear b2
                go_wp2_with fail
                go_meet
                case rel => exact ⟨rfl, b1⟩
            · have c5 : decide (n ≥ -9007199254740992) = false := decide_eq_false c3
              clear H2
              go_wp2_with fail
              refine (d4 _).mono ?_
              rintro e w4 ⟨rfl, b2⟩
              replace b1 := b1.trans (b2.mono b1.size); clear b2
              go_wp2_with fail
              go_meet
              case rel => exact ⟨rfl, b1⟩
          · have c5 : decide (n < m) = false := decide_eq_false c2
            clear H2
            go_wp2_with fail
            refine (d4 _).mono ?_
            rintro e w4 ⟨rfl, b2⟩
            replace b1 := b1.trans (b2.mono b1.size); clear b2
            go_wp2_with fail
            go_meet
            case rel => exact ⟨rfl, b1⟩
        · have c5 : decide (n ≤ m) = false := decide_eq_false c1
          have c6 : decide (n < m) = false := decide_eq_false (by omega)
          clear H1 H2
          go_wp2_with fail
          go_meet
          case rel => exact ⟨rfl, b1⟩
      case rest =>
        obtain ⟨rfl, b3⟩ := hcut
        clear b1 H1 H2
        have r1 : (A == A) = true := by simp
        have r2 : (X == X) = true := by simp
        go_wp2_with fail
        refine (d6 _).mono ?_
        rintro e w6 ⟨rfl, b2⟩
        replace b3 := b3.trans (b2.mono b3.size); clear b2
        go_wp2_with fail
        refine (d7 _).mono ?_
        rintro e w7 ⟨rfl, b2⟩
        replace b3 := b3.trans (b2.mono b3.size); clear b2
        go_wp2_with fail
        refine (hF _ b3).mono ?_
        rintro e w8 ⟨rfl, b2⟩
        replace b3 := b3.trans (b2.mono b3.size); clear b2
        go_wp2
        go_ret
        exact ⟨rfl, b3⟩
end Go.Proofs.YtadlppllbebkdaaGreatDoor
