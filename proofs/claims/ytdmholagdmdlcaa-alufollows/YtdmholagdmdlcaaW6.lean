/- AluFollows. -/
import Derived.Test.YtdmholagdmdlcaaW3
import Derived.Test.YtdmholagdmdlcaaM2
namespace Go.Proofs.Ytdmholagdmdlcaa
open Go.RowKit

set_option maxRecDepth 100000 in
set_option maxHeartbeats 1000000 in
theorem aluFollows_walk (b c : Int) (hb : Fits b) (hc : Fits c) (w : World) :
    Calls Try.prog 5 #[.int .i64 b, .int .i64 c] w fun e w' => e = .returned (.bool true) ∧ Below w.heap.size w w' := by
  have h1 := d_add b c
  have h2 := d_sub (iadd b c) c
  have h3 := d_sub b c
  have h4 := d_add (isub b c) c
  have h5 := d_xor b c
  have h6 := d_xor (ixor b c) c
  have h7 := d_div b c
  have h8 := d_rem b c
  have h9 := d_mul (idiv b c) c
  have h10 := d_add (imul (idiv b c) c) (irem b c)
  have h11 := d_less b c
  have h12 := d_less c b
  have h13 := d_equal b c
  have h14 := d_and b c
  have h15 := d_or b c
  have h16 := d_add (iand b c) (ior b c)
  have h17 := d_sub (ior b c) (iand b c)
  rw [sub_add_back b c hb] at h2
  rw [add_sub_back b c hb] at h4
  rw [xor_back b c hb] at h6
  rw [whole_back b c hb] at h10
  rw [and_add_or_i] at h16
  rw [or_sub_and_i] at h17
  have hr := fun h0 => rem_signs b c hb hc h0
  have hl := iless_01 b c
  have hm := iless_01 c b
  have he := iequal_01 b c
  have hfr : Fits (irem b c) := wrap64_fits _
  unfold Fits at hb hc hfr
  generalize iadd b c = s at *
  generalize isub b c = d at *
  generalize ixor b c = x at *
  generalize imul (idiv b c) c = p at *
  generalize idiv b c = q at *
  generalize irem b c = r at *
  generalize iand b c = n at *
  generalize ior b c = o at *
  have HR : Hid _ := hr
  clear hr
  go_enter Try.func5, Try.ntmps5
  go_wp2_with fail
  refine (h1 _).mono ?_
  rintro e w1 ⟨rfl, b1⟩
  go_wp2_with fail
  refine (h2 _).mono ?_
  rintro e w2 ⟨rfl, b2⟩
  replace b1 := b1.trans (b2.mono b1.size)
  clear b2
  go_wp2_with fail
  refine (h3 _).mono ?_
  rintro e w3 ⟨rfl, b2⟩
  replace b1 := b1.trans (b2.mono b1.size)
  clear b2
  go_wp2_with fail
  refine (h4 _).mono ?_
  rintro e w4 ⟨rfl, b2⟩
  replace b1 := b1.trans (b2.mono b1.size)
  clear b2
  go_wp2_with fail
  refine (h5 _).mono ?_
  rintro e w5 ⟨rfl, b2⟩
  replace b1 := b1.trans (b2.mono b1.size)
  clear b2
  go_wp2_with fail
  refine (h6 _).mono ?_
  rintro e w6 ⟨rfl, b2⟩
  replace b1 := b1.trans (b2.mono b1.size)
  clear b2
  go_wp2_with fail
  refine (h7 _).mono ?_
  rintro e w7 ⟨rfl, b2⟩
  replace b1 := b1.trans (b2.mono b1.size)
  clear b2
  go_wp2_with fail
  refine (h8 _).mono ?_
  rintro e w8 ⟨rfl, b2⟩
  replace b1 := b1.trans (b2.mono b1.size)
  clear b2
  go_wp2_with fail
  refine (h9 _).mono ?_
  rintro e w9 ⟨rfl, b2⟩
  replace b1 := b1.trans (b2.mono b1.size)
  clear b2
  go_wp2_with fail
  refine (h10 _).mono ?_
  rintro e w10 ⟨rfl, b2⟩
  replace b1 := b1.trans (b2.mono b1.size)
  clear b2
  go_upto_region 6 with fail
  go_cut [114] from 48 to 114 (fun s114 wy => s114 = .bool false ∧ wy = w10)
  case first =>
    clear h11 h12 h13 h14 h15 h16 h17 hl hm he
    simp only [List.append]
    by_cases h0 : c = 0
    · have t0 : (c != 0) = false := by simp [h0]
      clear HR h0
      go_wp2_with fail
      go_meet
      case rel => exact ⟨rfl, rfl⟩
    · obtain ⟨r1, r2⟩ := HR.out h0
      have t0 : (c != 0) = true := by simp [h0]
      clear HR
      rcases Int.lt_trichotomy r 0 with hr | hr | hr
      · have hb0 : b < 0 := (r1 (by omega)).1 hr
        have t1 : (r != 0) = true := by simp; omega
        have t2 : decide (0 ≤ r) = false := decide_eq_false (by omega)
        clear r1
        by_cases hc0 : 0 < c
        · have t3 : decide (r ≤ -c) = false := decide_eq_false (by omega)
          have t4 : decide (c < 0) = false := decide_eq_false (by omega)
          clear h0 r2
          go_wp2_with fail
          go_meet
          case rel => exact ⟨rfl, rfl⟩
        · have t3 : decide (r ≤ c) = false := decide_eq_false (by omega)
          have t4 : c < 0 := by omega
          have t5 : decide (0 < c) = false := decide_eq_false (by omega)
          clear h0 r2
          go_wp2_with fail
          go_meet
          case rel => exact ⟨rfl, rfl⟩
      · have t1 : (r != 0) = false := by simp [hr]
        have t2 : 0 ≤ r := by omega
        have t6 : decide (r < 0) = false := decide_eq_false (by omega)
        clear r1
        by_cases hc0 : 0 < c
        · have t3 : decide (c ≤ r) = false := decide_eq_false (by omega)
          have t4 : decide (c < 0) = false := decide_eq_false (by omega)
          clear h0 r2 hr
          go_wp2_with fail
          go_meet
          case rel => exact ⟨rfl, rfl⟩
        · have t3 : decide (-r ≤ c) = false := decide_eq_false (by omega)
          have t4 : c < 0 := by omega
          have t5 : decide (0 < c) = false := decide_eq_false (by omega)
          clear h0 r2 hr
          go_wp2_with fail
          go_meet
          case rel => exact ⟨rfl, rfl⟩
      · have hb0 : decide (b < 0) = false := decide_eq_false (fun h => by have := (r1 (by omega)).2 h; omega)
        have t1 : (r != 0) = true := by simp; omega
        have t2 : 0 ≤ r := by omega
        have t6 : decide (r < 0) = false := decide_eq_false (by omega)
        clear r1
        by_cases hc0 : 0 < c
        · have t3 : decide (c ≤ r) = false := decide_eq_false (by omega)
          have t4 : decide (c < 0) = false := decide_eq_false (by omega)
          clear h0 r2
          go_wp2_with fail
          go_meet
          case rel => exact ⟨rfl, rfl⟩
        · have t3 : decide (-r ≤ c) = false := decide_eq_false (by omega)
          have t4 : c < 0 := by omega
          have t5 : decide (0 < c) = false := decide_eq_false (by omega)
          clear h0 r2
          go_wp2_with fail
          go_meet
          case rel => exact ⟨rfl, rfl⟩
  case rest =>
    obtain ⟨rfl, rfl⟩ := hcut
    clear HR
    have key : ∃ L M E : Int, iless b c = L ∧ iless c b = M ∧ iequal b c = E ∧ (L = 1 ∧ M = 0 ∧ E = 0 ∧ b < c ∨ L = 0 ∧ M = 1 ∧ E = 0 ∧ c < b ∨ L = 0 ∧ M = 0 ∧ E = 1 ∧ b = c) := ⟨_, _, _, rfl, rfl, rfl, by omega⟩
    obtain ⟨L, M, E, eL, eM, eE, hk⟩ := key
    rw [eL] at h11
    rw [eM] at h12
    rw [eE] at h13
    clear eL eM eE hl hm he
    have hx : (decide (L < 0) = false ∧ decide (M < 0) = false ∧ decide (E < 0) = false) ∧ (L + M + E != 1) = false ∧ ((L == 1) = decide (b < c)) ∧ ((E == 1) = (b == c)) ∧ 0 ≤ L ∧ L ≤ 1 ∧ 0 ≤ M ∧ M ≤ 1 ∧ 0 ≤ E ∧ E ≤ 1 := by
      rcases hk with ⟨rfl, rfl, rfl, h⟩ | ⟨rfl, rfl, rfl, h⟩ | ⟨rfl, rfl, rfl, h⟩
      · refine ⟨by simp, by simp, by simp [h], ?_, by omega⟩
        have : b ≠ c := by omega
        simp [this]
      · refine ⟨by simp, by simp, ?_, ?_, by omega⟩
        · have : ¬ b < c := by omega
          simp [this]
        · have : b ≠ c := by omega
          simp [this]
      · refine ⟨by simp, by simp, ?_, by simp [h], by omega⟩
        have : ¬ b < c := by omega
        simp [this]
    obtain ⟨⟨x1, x2, x3⟩, x4, x5, x6, x7, x8, x9, x10, x11, x12⟩ := hx
    clear hk
    go_wp2_with fail
    refine (h11 _).mono ?_
    rintro e w11 ⟨rfl, b2⟩
    replace b1 := b1.trans (b2.mono b1.size)
    clear b2
    go_wp2_with fail
    refine (h12 _).mono ?_
    rintro e w12 ⟨rfl, b2⟩
    replace b1 := b1.trans (b2.mono b1.size)
    clear b2
    go_wp2_with fail
    refine (h13 _).mono ?_
    rintro e w13 ⟨rfl, b2⟩
    replace b1 := b1.trans (b2.mono b1.size)
    clear b2
    go_wp2_with fail
    refine (h14 _).mono ?_
    rintro e w14 ⟨rfl, b2⟩
    replace b1 := b1.trans (b2.mono b1.size)
    clear b2
    go_wp2_with fail
    refine (h15 _).mono ?_
    rintro e w15 ⟨rfl, b2⟩
    replace b1 := b1.trans (b2.mono b1.size)
    clear b2
    go_wp2_with fail
    refine (h16 _).mono ?_
    rintro e w16 ⟨rfl, b2⟩
    replace b1 := b1.trans (b2.mono b1.size)
    clear b2
    go_wp2_with fail
    refine (h1 _).mono ?_
    rintro e w17 ⟨rfl, b2⟩
    replace b1 := b1.trans (b2.mono b1.size)
    clear b2
    go_wp2_with fail
    refine (h15 _).mono ?_
    rintro e w18 ⟨rfl, b2⟩
    replace b1 := b1.trans (b2.mono b1.size)
    clear b2
    go_wp2_with fail
    refine (h14 _).mono ?_
    rintro e w19 ⟨rfl, b2⟩
    replace b1 := b1.trans (b2.mono b1.size)
    clear b2
    go_wp2_with fail
    refine (h17 _).mono ?_
    rintro e w20 ⟨rfl, b2⟩
    replace b1 := b1.trans (b2.mono b1.size)
    clear b2
    go_wp2_with fail
    refine (h5 _).mono ?_
    rintro e w21 ⟨rfl, b2⟩
    replace b1 := b1.trans (b2.mono b1.size)
    clear b2
    go_wp2_with fail
    refine (fixed_any _).mono ?_
    rintro e w22 ⟨rfl, b2⟩
    replace b1 := b1.trans (b2.mono b1.size)
    clear b2
    go_wp2
    go_ret
    exact ⟨rfl, b1⟩
end Go.Proofs.Ytdmholagdmdlcaa
