/- AluShifts. -/
import Derived.Test.YtdmholagdmdlcaaW3
import Derived.Test.YtdmholagdmdlcaaM3
namespace Go.Proofs.Ytdmholagdmdlcaa
open Go.RowKit

set_option maxRecDepth 100000 in
set_option maxHeartbeats 1000000 in
theorem aluShifts_nat (b : Int) (N M X Y : Nat) (hb : Fits b) (hN : N < 256) (hM : M < 256) (eX : (N : Int) % 70 = (X : Int)) (eY : (M : Int) % 70 = (Y : Int)) (_hX : X < 70) (_hY : Y < 70) (w : World) :
    Calls Try.prog 6 #[.int .i64 b, .int .u8 N, .int .u8 M] w fun e w' => e = .returned (.bool true) ∧ Below w.heap.size w w' := by
  have h1 := d_shl 1 X
  have h2 := d_shl b X
  have h3 := d_mul b (ishl 1 X)
  have h4 := d_shl (ishl b X) Y
  have h5 := d_shl b ((X + Y : Nat) : Int)
  have h6 := d_shr b X
  have h7 := d_shr (ishr b X) Y
  have h8 := d_shr b ((X + Y : Nat) : Int)
  have h9 := d_shr (ishl b X) X
  have h11 := d_mul (ishr b X) (ishl 1 X)
  have h13 := d_shl b (-1 - (X : Int))
  have h14 := d_shr b (-1 - (X : Int))
  rw [shl_is_mul] at h3
  rw [shl_shl] at h4
  rw [shr_shr b hb] at h7
  rw [shl_neg _ _ (by omega)] at h13
  rw [shr_neg _ _ (by omega)] at h14
  have hk := back_kept b X
  have hs := down_sign b hb X
  have hd := down_part b hb X
  have f1 : Fits (ishl 1 X) := by rw [ishl_nat]; exact wrap64_fits _
  generalize ishr (ishl b X) X = back at *
  generalize imul (ishr b X) (ishl 1 X) = pt at *
  generalize ishl b X = up at *
  generalize ishl 1 X = one at *
  generalize ishr b X = dn at *
  generalize ishl b ((X + Y : Nat) : Int) = u2 at *
  generalize ishr b ((X + Y : Nat) : Int) = d2 at *
  have eS : ((X + Y : Nat) : Int) = (X : Int) + (Y : Int) := by omega
  rw [eS] at h5 h8
  clear eS
  unfold Fits at hb
  have HK : Hid _ := hk
  have HS : Hid _ := hs
  have HD : Hid _ := hd
  clear hk hs hd
  have b1 := Below.refl w.heap.size w
  go_enter Try.func6, Try.ntmps6
  go_wp2_with fail
  refine (h1 _).mono ?_
  rintro e w1 ⟨rfl, b2⟩
  replace b1 := b1.trans (b2.mono b1.size)
  clear b2
  go_wp2_with fail
  refine (h2 _).mono ?_
  rintro e w2 ⟨rfl, b2⟩
  replace b1 := b1.trans (b2.mono b1.size)
  clear b2
  go_wp2_with fail
  refine (h3 _).mono ?_
  rintro e w3 ⟨rfl, b2⟩
  replace b1 := b1.trans (b2.mono b1.size)
  clear b2
  go_wp2_with fail
  refine (h4 _).mono ?_
  rintro e w4 ⟨rfl, b2⟩
  replace b1 := b1.trans (b2.mono b1.size)
  clear b2
  go_wp2_with fail
  refine (h5 _).mono ?_
  rintro e w5 ⟨rfl, b2⟩
  replace b1 := b1.trans (b2.mono b1.size)
  clear b2
  go_wp2_with fail
  refine (h6 _).mono ?_
  rintro e w6 ⟨rfl, b2⟩
  replace b1 := b1.trans (b2.mono b1.size)
  clear b2
  go_wp2_with fail
  refine (h7 _).mono ?_
  rintro e w7 ⟨rfl, b2⟩
  replace b1 := b1.trans (b2.mono b1.size)
  clear b2
  go_wp2_with fail
  refine (h8 _).mono ?_
  rintro e w8 ⟨rfl, b2⟩
  replace b1 := b1.trans (b2.mono b1.size)
  clear b2
  go_wp2_with fail
  refine (h9 _).mono ?_
  rintro e w9 ⟨rfl, b2⟩
  replace b1 := b1.trans (b2.mono b1.size)
  clear b2
  go_upto_region 7 with fail
  go_cut [12] from 57 to 70 (fun s12 wy => (∃ K : Bool, s12 = .bool K ∧ Hid (K = true → back = b)) ∧ wy = w9)
  case first =>
    clear h1 h2 h3 h4 h5 h6 h7 h8 h9 h11 h13 h14 HS HD
    by_cases g1 : X < 63
    · have g2 : (X : Int) < 63 := by omega
      have HK' : Hid (b ≤ 9223372036854775807 / 2 ^ X → -9223372036854775808 / 2 ^ X ≤ b → back = b) := HK.out g1
      clear HK
      by_cases g3 : b ≤ 9223372036854775807 / 2 ^ X
      · by_cases g4 : -9223372036854775808 / 2 ^ X ≤ b
        · have H : Hid (back = b) := HK'.out g3 g4
          clear HK'
          go_wp2_with fail
          go_meet
          case rel => exact ⟨⟨_, rfl, fun _ => H.out⟩, rfl⟩
        · have g5 : decide (-9223372036854775808 / 2 ^ X ≤ b) = false := decide_eq_false g4
          clear HK'
          go_wp2_with fail
          go_meet
          case rel => exact ⟨⟨_, rfl, fun h => by simp at h⟩, rfl⟩
      · have g5 : decide (b ≤ 9223372036854775807 / 2 ^ X) = false := decide_eq_false g3
        clear HK'
        go_wp2_with fail
        go_meet
        case rel => exact ⟨⟨_, rfl, fun h => by simp at h⟩, rfl⟩
    · have g2 : decide ((X : Int) < 63) = false := decide_eq_false (by omega)
      clear HK
      go_wp2_with fail
      go_meet
      case rel => exact ⟨⟨_, rfl, fun h => by simp at h⟩, rfl⟩
  case rest =>
    obtain ⟨⟨K, rfl, hK⟩, rfl⟩ := hcut
    clear HK
    go_upto_region 8 with fail
    go_cut [76] from 71 to 76 (fun s76 wy => s76 = .bool false ∧ wy = wc)
    case first =>
      clear h1 h2 h3 h4 h5 h6 h7 h8 h9 h11 h13 h14 HS HD
      cases K
      · clear hK
        go_wp2_with fail
        go_meet
        case rel => exact ⟨rfl, rfl⟩
      · have g1 : (back == b) = true := by rw [beq_iff_eq]; exact hK.out rfl
        have g2 : (back != b) = false := by simp [hK.out rfl]
        clear hK
        go_wp2_with fail
        go_meet
        case rel => exact ⟨rfl, rfl⟩
    case rest =>
      obtain ⟨rfl, rfl⟩ := hcut
      clear hK
      go_wp2_with fail
      refine (h6 _).mono ?_
      rintro e w10 ⟨rfl, b2⟩
      replace b1 := b1.trans (b2.mono b1.size)
      clear b2
      go_upto_region 11 with fail
      go_cut [104] from 80 to 104 (fun s104 wy => s104 = .bool false ∧ Below w.heap.size w wy)
      case first =>
        have g0 : decide (dn < 0) = decide (b < 0) := by simp [HS.out]
        clear h1 h2 h3 h4 h5 h6 h7 h8 h9 h13 h14 HS
        by_cases g1 : X < 63
        · obtain ⟨p1, p2, p3⟩ := HD.out g1
          have g2 : (X : Int) < 63 := by omega
          have p4 : decide (b < pt) = false := decide_eq_false (by omega)
          have p5 : decide (one ≤ b - pt) = false := decide_eq_false (by omega)
          unfold Fits at p3 f1
          clear HD g1
          go_wp2_with fail
          refine (h11 _).mono ?_
          rintro e w11 ⟨rfl, b2⟩
          replace b1 := b1.trans (b2.mono b1.size)
          clear b2
          go_wp2_with fail
          refine (h11 _).mono ?_
          rintro e w12 ⟨rfl, b2⟩
          replace b1 := b1.trans (b2.mono b1.size)
          clear b2
          go_wp2_with fail
          go_meet
          case rel => exact ⟨rfl, b1⟩
        · have g2 : decide ((X : Int) < 63) = false := decide_eq_false (by omega)
          clear HD
          go_wp2_with fail
          go_meet
          case rel => exact ⟨rfl, b1⟩
      case rest =>
        obtain ⟨rfl, b3⟩ := hcut
        clear b1 HS HD
        have b1 := b3
        clear b3
        go_wp2_with fail
        refine (h13 _).mono ?_
        rintro e w13 ⟨rfl, b2⟩
        replace b1 := b1.trans (b2.mono b1.size)
        clear b2
        go_wp2_with fail
        refine (h14 _).mono ?_
        rintro e w14 ⟨rfl, b2⟩
        replace b1 := b1.trans (b2.mono b1.size)
        clear b2
        go_wp2_with fail
        refine (fixed_any _).mono ?_
        rintro e w15 ⟨rfl, b2⟩
        replace b1 := b1.trans (b2.mono b1.size)
        clear b2
        go_wp2
        go_ret
        exact ⟨rfl, b1⟩

theorem aluShifts_walk (b n m : Int) (hb : -9223372036854775808 ≤ b ∧ b ≤ 9223372036854775807) (hn : 0 ≤ n ∧ n ≤ 255) (hm : 0 ≤ m ∧ m ≤ 255) (w : World) :
    Calls Try.prog 6 #[.int .i64 b, .int .u8 n, .int .u8 m] w fun e w' => e = .returned (.bool true) ∧ Below w.heap.size w w' := by
  obtain ⟨N, rfl⟩ := Int.eq_ofNat_of_zero_le hn.1
  obtain ⟨M, rfl⟩ := Int.eq_ofNat_of_zero_le hm.1
  exact aluShifts_nat b N M (N % 70) (M % 70) hb (by omega) (by omega) (by omega) (by omega) (Nat.mod_lt _ (by decide)) (Nat.mod_lt _ (by decide)) w
end Go.Proofs.Ytdmholagdmdlcaa
