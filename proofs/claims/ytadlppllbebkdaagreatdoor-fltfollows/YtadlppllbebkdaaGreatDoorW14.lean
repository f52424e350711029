/- FltFollows. -/
import Derived.Test.YtadlppllbebkdaaGreatDoorW11
import Derived.Test.YtadlppllbebkdaaGreatDoorW12
import Derived.Deep.CutRange
import Derived.Deep.MidRow
namespace Go.Proofs.YtadlppllbebkdaaGreatDoor
open Go.RowKit

/-- A NaN is the one NaN; of a NaN comes that. -/
def Good (na nb : Bool) (v : Int) : Prop := (INF < rungOf (wd v) → v = 9221120237041090560) ∧ ((na || nb) = true → v = 9221120237041090560)

theorem good_of (a b : Int) (r : Nat) (h1 : (INF < rungOf r → r = NAN) ∧ r < 2 ^ 64) (h2 : INF < rungOf (wd a) ∨ INF < rungOf (wd b) → r = NAN) :
    Good (decide (INF < rungOf (wd a))) (decide (INF < rungOf (wd b))) (wrap64 (r : Int)) := by
  have e : wrap64 (NAN : Int) = 9221120237041090560 := by kernel_rfl
  constructor
  · rw [wd_wrap r h1.2]
    intro h
    rw [h1.1 h, e]
  · intro h
    rw [h2 (by simpa using h), e]

set_option maxRecDepth 100000 in
set_option maxHeartbeats 4000000 in
theorem fltFollows_walk (a b : Int) (ha : -9223372036854775808 ≤ a ∧ a ≤ 9223372036854775807) (_hb : -9223372036854775808 ≤ b ∧ b ≤ 9223372036854775807) (w : World) (T : Tabs w) :
    Calls Tryz.prog 7 #[.int .i64 a, .int .i64 b] w fun e w' => e = .returned (.bool true) ∧ Below w.heap.size w w' := by
  obtain ⟨P, hP⟩ : ∃ P, P = wrap64 (fadd (wd a) (wd b) : Int) := ⟨_, rfl⟩
  obtain ⟨Mi, hMi⟩ : ∃ P, P = wrap64 (fsub (wd a) (wd b) : Int) := ⟨_, rfl⟩
  obtain ⟨Ti, hTi⟩ : ∃ P, P = wrap64 (fmul (wd a) (wd b) : Int) := ⟨_, rfl⟩
  obtain ⟨By, hBy⟩ : ∃ P, P = wrap64 (fdiv (wd a) (wd b) : Int) := ⟨_, rfl⟩
  obtain ⟨na, hna⟩ : ∃ n, n = decide (INF < rungOf (wd a)) := ⟨_, rfl⟩
  obtain ⟨nb, hnb⟩ : ∃ n, n = decide (INF < rungOf (wd b)) := ⟨_, rfl⟩
  obtain ⟨S, hS⟩ : ∃ S, S = wrap64 (flip (wd b) : Int) := ⟨_, rfl⟩
  have hx : bits .xor .i64 b (-9223372036854775808) = S := by rw [hS]; exact xor_sign b
  have la := wd_lt a
  have lb := wd_lt b
  have gP : Good na nb P := by rw [hP, hna, hnb]; exact good_of a b _ (fadd_nan _ _) (fadd_of_nan _ _)
  have gMi : Good na nb Mi := by rw [hMi, hna, hnb]; exact good_of a b _ (fsub_nan _ _) (fsub_of_nan _ _)
  have gTi : Good na nb Ti := by rw [hTi, hna, hnb]; exact good_of a b _ (fmul_nan _ _) (fmul_of_nan _ _)
  have gBy : Good na nb By := by rw [hBy, hna, hnb]; exact good_of a b _ (fdiv_nan _ _) (fdiv_of_nan _ _)
  have d1 := do16 15 a b P (fun w => by rw [hP]; exact do_fadd a b w)
  have d2 := do16 16 a b Mi (fun w => by rw [hMi]; exact do_fsub a b w)
  have d3 := do16 17 a b Ti (fun w => by rw [hTi]; exact do_fmul a b w)
  have d4 := do16 18 a b By (fun w => by rw [hBy]; exact do_fdiv a b w)
  have d5 := do16 15 b a P (fun w => by rw [hP, fadd_comm]; exact do_fadd b a w)
  have d6 := do16 17 b a Ti (fun w => by rw [hTi, fmul_comm]; exact do_fmul b a w)
  have d7 := do16 15 a S Mi (fun w => by
    have h := do_fadd a S w
    rw [hS, wd_wrap _ (flip_lt _ lb), ← fsub_flip _ _ lb, ← hMi, ← hS] at h
    exact h)
  obtain ⟨L1, hL1⟩ : ∃ L1 : Int, L1 = if fless (wd a) (wd b) then 1 else 0 := ⟨_, rfl⟩
  obtain ⟨L2, hL2⟩ : ∃ L2 : Int, L2 = if fless (wd b) (wd a) then 1 else 0 := ⟨_, rfl⟩
  have d8 := do16 19 a b L1 (fun w => by rw [hL1]; exact do_fless a b w)
  have d9 := do16 19 b a L2 (fun w => by rw [hL2]; exact do_fless b a w)
  have l1 : 0 ≤ L1 ∧ L1 ≤ 1 := by rw [hL1]; split <;> omega
  have l2 : 0 ≤ L2 ∧ L2 ≤ 1 := by rw [hL2]; split <;> omega
  have l3 : L1 + L2 ≤ 1 := by
    rw [hL1, hL2]
    cases h : fless (wd a) (wd b)
    · simp only [Bool.false_eq_true, if_false]; split <;> omega
    · rw [fless_anti _ _ h]; simp
  have l4 : (na || nb) = true → L1 + L2 = 0 := fun h => by
    rw [hna, hnb] at h
    have h' : INF < rungOf (wd a) ∨ INF < rungOf (wd b) := by simpa using h
    rw [hL1, hL2, fless_of_nan _ _ h', fless_of_nan _ _ h'.symm]; rfl
  have d10 := fun (h : INF < rungOf (wd a)) => do16 21 a b 0 (fun w => by
    have h1 := do_toint a b w
    have e : fwhole (wd a) = 0 := by unfold fwhole; rw [if_pos h]
    rw [e] at h1
    exact h1)
  have e1 : wd 4607182418800017408 = ONE := by kernel_rfl
  have e2 : wd (-9223372036854775808) = SIGN := by kernel_rfl
  have e0 : wd 0 = 0 := by kernel_rfl
  have d11 := fun (h : rungOf (wd a) ≤ INF) => do16 17 a 4607182418800017408 a (fun w => by
    have h1 := do_fmul a 4607182418800017408 w
    rw [e1, fmul_one _ la h, wrap_wd a ha.1 ha.2] at h1
    exact h1)
  have d12 := fun (h : rungOf (wd a) ≤ INF) => do16 18 a 4607182418800017408 a (fun w => by
    have h1 := do_fdiv a 4607182418800017408 w
    rw [e1, fdiv_one _ la h, wrap_wd a ha.1 ha.2] at h1
    exact h1)
  have d13 := fun (h : rungOf (wd a) ≤ INF) => do16 15 a (-9223372036854775808) a (fun w => by
    have h1 := do_fadd a (-9223372036854775808) w
    rw [e2, fadd_sign _ la h, wrap_wd a ha.1 ha.2] at h1
    exact h1)
  have d14 := fun (h1 : rungOf (wd a) < INF) (h2 : rungOf (wd b) < INF) => do16 19 Mi 0 L1 (fun w => by
    have h := do_fless Mi 0 w
    rw [e0, hMi, wd_wrap _ (fsub_nan _ _).2, ← fless_fsub _ _ lb h1 h2, ← hMi, ← hL1] at h
    exact h)
  have n1 := isNaN17 a
  have n2 := isNaN17 b
  rw [← hna] at n1
  rw [← hnb] at n2
  have x1 := andNot_sign a
  have x2 := andNot_sign b
  have hF := fun W (B : Below w.heap.size w W) => fixed_any W (T.kept B)
  have v1 := fun v => isNaN17 v
  have GP := Lib.hid gP
  have GM := Lib.hid gMi
  have GT := Lib.hid gTi
  have GB := Lib.hid gBy
  have L4 := Lib.hid l4
  have NA : Hid (na = decide (INF < rungOf (wd a))) := Lib.hid hna
  have NB : Hid (nb = decide (INF < rungOf (wd b))) := Lib.hid hnb
  clear gP gMi gTi gBy l4 hna hnb hP hMi hTi hBy hS hL1 hL2 la lb e1 e2 e0 T
  go_enter Tryz.func7, Tryz.ntmps7
  go_wp2_with fail
  refine (d1 _).mono ?_
  rintro e w1 ⟨rfl, b1⟩
  go_wp2_with fail
  refine (d2 _).mono ?_
  rintro e w2 ⟨rfl, b2⟩
  replace b1 := b1.trans (b2.mono b1.size); clear b2
  go_wp2_with fail
  refine (d3 _).mono ?_
  rintro e w3 ⟨rfl, b2⟩
  replace b1 := b1.trans (b2.mono b1.size); clear b2
  go_wp2_with fail
  refine (d4 _).mono ?_
  rintro e w4 ⟨rfl, b2⟩
  replace b1 := b1.trans (b2.mono b1.size); clear b2
  clear d1 d2 d3 d4
  go_upto_region 2 with fail
  go_cut [49] from 25 to 49 (fun s49 wy => s49 = .bool false ∧ Below w.heap.size w wy)
  case first =>
    clear d8 d9 d10 d11 d12 d13 d14 n1 x1 x2 hF v1 GP GM GT GB L4 NA NB
    have r1 : (P != P) = false := by simp
    have r2 : (Ti != Ti) = false := by simp
    have r3 : (Mi != Mi) = false := by simp
    cases nb
    · go_wp2_with fail
      refine (d5 _).mono ?_
      rintro e w5 ⟨rfl, b2⟩
      replace b1 := b1.trans (b2.mono b1.size); clear b2
      go_wp2_with fail
      refine (d6 _).mono ?_
      rintro e w6 ⟨rfl, b2⟩
      replace b1 := b1.trans (b2.mono b1.size); clear b2
      go_wp2_with fail
      refine (n2 _).mono ?_
      rintro e w7 ⟨rfl, rfl⟩
      go_wp2_with fail
      refine (d7 _).mono ?_
      rintro e w8 ⟨rfl, b2⟩
      replace b1 := b1.trans (b2.mono b1.size); clear b2
      go_wp2_with fail
      go_meet
      case rel => exact ⟨rfl, b1⟩
    · go_wp2_with fail
      refine (d5 _).mono ?_
      rintro e w5 ⟨rfl, b2⟩
      replace b1 := b1.trans (b2.mono b1.size); clear b2
      go_wp2_with fail
      refine (d6 _).mono ?_
      rintro e w6 ⟨rfl, b2⟩
      replace b1 := b1.trans (b2.mono b1.size); clear b2
      go_wp2_with fail
      refine (n2 _).mono ?_
      rintro e w7 ⟨rfl, rfl⟩
      go_wp2_with fail
      go_meet
      case rel => exact ⟨rfl, b1⟩
  case rest =>
    obtain ⟨rfl, b3⟩ := hcut
    clear b1 d5 d6 d7 hx
    have hcell : ∀ k, k < 4 → ∃ X, (wc.alloc (.cells #[.int .i64 P, .int .i64 Mi, .int .i64 Ti, .int .i64 By] 2)).cell? ⟨wc.heap.size, k, none⟩ = some (.int .i64 X) ∧ Good na nb X := fun k hk => by
      match k, hk with
      | 0, _ => exact ⟨P, by simp [go_sem], GP.out⟩
      | 1, _ => exact ⟨Mi, by simp [go_sem], GM.out⟩
      | 2, _ => exact ⟨Ti, by simp [go_sem], GT.out⟩
      | 3, _ => exact ⟨By, by simp [go_sem], GB.out⟩
    have b4 : Below w.heap.size w (wc.alloc (.cells #[.int .i64 P, .int .i64 Mi, .int .i64 Ti, .int .i64 By] 2)) := b3.alloc b3.size _
    have HC := Lib.hid hcell
    clear hcell b3 GP GM GT GB
    go_wp2_with fail
    go_loopw [56] (fun x wr => ∃ k : Nat, k ≤ 4 ∧ x = .int .i64 k ∧ wr = wc.alloc (.cells #[.int .i64 P, .int .i64 Mi, .int .i64 Ti, .int .i64 By] 2)) (fun x _ => 4 - (intOf x).toNat)
    case atStart => exact ⟨0, by omega, rfl, rfl⟩
    case round =>
      obtain ⟨k, hk, rfl, rfl⟩ := hrel
      by_cases hlt : k < 4
      · obtain ⟨X, hXc, g1, g2⟩ := HC.out k hlt
        have n3 := v1 X
        obtain ⟨nx, hnx⟩ : ∃ n, n = decide (INF < rungOf (wd X)) := ⟨_, rfl⟩
        rw [← hnx] at n3
        have hr : (nx || na || nb) = true → (X != 9221120237041090560) = false := fun h => by
          have : X = 9221120237041090560 := by
            cases hb1 : nx
            · rw [hb1] at h; exact g2 (by simpa using h)
            · rw [hb1] at hnx; exact g1 (of_decide_eq_true hnx.symm)
          simp [this]
        have hlt' : (k : Int) < 4 := by omega
        clear HC g1 g2 hnx d8 d9 d10 d11 d12 d13 d14 x1 x2 hF v1 L4 NA NB
        cases nx <;> cases na <;> cases nb
        · clear hr
          go_wp2_with fail
          refine (n3 _).mono ?_
          rintro e w5 ⟨rfl, rfl⟩
          go_wp2_with fail
          refine (n1 _).mono ?_
          rintro e w6 ⟨rfl, rfl⟩
          go_wp2_with fail
          refine (n2 _).mono ?_
          rintro e w7 ⟨rfl, rfl⟩
          go_wp2_with fail
          go_roundw
          case rel => exact ⟨k + 1, by omega, by go_num, trivial⟩
          case measure => simp [intOf]; omega
        · have hr1 := hr rfl
          clear hr
          go_wp2_with fail
          refine (n3 _).mono ?_
          rintro e w5 ⟨rfl, rfl⟩
          go_wp2_with fail
          refine (n1 _).mono ?_
          rintro e w6 ⟨rfl, rfl⟩
          go_wp2_with fail
          refine (n2 _).mono ?_
          rintro e w7 ⟨rfl, rfl⟩
          go_wp2_with fail
          go_roundw
          case rel => exact ⟨k + 1, by omega, by go_num, trivial⟩
          case measure => simp [intOf]; omega
        · have hr1 := hr rfl
          clear hr
          go_wp2_with fail
          refine (n3 _).mono ?_
          rintro e w5 ⟨rfl, rfl⟩
          go_wp2_with fail
          refine (n1 _).mono ?_
          rintro e w6 ⟨rfl, rfl⟩
          go_wp2_with fail
          go_roundw
          case rel => exact ⟨k + 1, by omega, by go_num, trivial⟩
          case measure => simp [intOf]; omega
        · have hr1 := hr rfl
          clear hr
          go_wp2_with fail
          refine (n3 _).mono ?_
          rintro e w5 ⟨rfl, rfl⟩
          go_wp2_with fail
          refine (n1 _).mono ?_
          rintro e w6 ⟨rfl, rfl⟩
          go_wp2_with fail
          go_roundw
          case rel => exact ⟨k + 1, by omega, by go_num, trivial⟩
          case measure => simp [intOf]; omega
        · have hr1 := hr rfl
          clear hr
          go_wp2_with fail
          refine (n3 _).mono ?_
          rintro e w5 ⟨rfl, rfl⟩
          go_wp2_with fail
          refine (n1 _).mono ?_
          rintro e w6 ⟨rfl, rfl⟩
          go_wp2_with fail
          refine (n2 _).mono ?_
          rintro e w7 ⟨rfl, rfl⟩
          go_wp2_with fail
          go_roundw
          case rel => exact ⟨k + 1, by omega, by go_num, trivial⟩
          case measure => simp [intOf]; omega
        · have hr1 := hr rfl
          clear hr
          go_wp2_with fail
          refine (n3 _).mono ?_
          rintro e w5 ⟨rfl, rfl⟩
          go_wp2_with fail
          refine (n1 _).mono ?_
          rintro e w6 ⟨rfl, rfl⟩
          go_wp2_with fail
          refine (n2 _).mono ?_
          rintro e w7 ⟨rfl, rfl⟩
          go_wp2_with fail
          go_roundw
          case rel => exact ⟨k + 1, by omega, by go_num, trivial⟩
          case measure => simp [intOf]; omega
        · have hr1 := hr rfl
          clear hr
          go_wp2_with fail
          refine (n3 _).mono ?_
          rintro e w5 ⟨rfl, rfl⟩
          go_wp2_with fail
          refine (n1 _).mono ?_
          rintro e w6 ⟨rfl, rfl⟩
          go_wp2_with fail
          go_roundw
          case rel => exact ⟨k + 1, by omega, by go_num, trivial⟩
          case measure => simp [intOf]; omega
        · have hr1 := hr rfl
          clear hr
          go_wp2_with fail
          refine (n3 _).mono ?_
          rintro e w5 ⟨rfl, rfl⟩
          go_wp2_with fail
          refine (n1 _).mono ?_
          rintro e w6 ⟨rfl, rfl⟩
          go_wp2_with fail
          go_roundw
          case rel => exact ⟨k + 1, by omega, by go_num, trivial⟩
          case measure => simp [intOf]; omega
      · have hk4 : k = 4 := by omega
        subst hk4
        clear HC v1
        obtain ⟨Q, hQ⟩ : ∃ Q, L1 + L2 = Q := ⟨_, rfl⟩
        have c1 : decide (L1 < 0) = false := decide_eq_false (by omega)
        have c2 : decide (L2 < 0) = false := decide_eq_false (by omega)
        have c3 : decide (Q > 1) = false := decide_eq_false (by omega)
        have c4 : 0 ≤ Q := by omega
        have c5 : Q ≤ 1 := by omega
        have c6 : (na || nb) = true → decide (Q > 0) = false := fun h => by
          have := L4.out h
          exact decide_eq_false (by omega)
        have C6 := Lib.hid c6
        clear c6 L4 l3
        go_wp2_with fail
        refine (d8 _).mono ?_
        rintro e w5 ⟨rfl, b2⟩
        replace b4 := b4.trans (b2.mono b4.size); clear b2
        go_wp2_with fail
        refine (d9 _).mono ?_
        rintro e w6 ⟨rfl, b2⟩
        replace b4 := b4.trans (b2.mono b4.size); clear b2
        clear d8 d9
        go_upto_region 11 with fail
        go_cut [110] from 85 to 110 (fun s110 wy => s110 = .bool false ∧ wy = w6)
        case first =>
          clear d10 d11 d12 d13 d14 x1 x2 hF NA NB
          cases na
          · cases nb
            · clear C6
              go_wp2_with fail
              refine (n1 _).mono ?_
              rintro e w7 ⟨rfl, rfl⟩
              go_wp2_with fail
              refine (n2 _).mono ?_
              rintro e w8 ⟨rfl, rfl⟩
              go_wp2_with fail
              go_meet
              case rel => exact ⟨rfl, rfl⟩
            · have c7 := C6.out rfl
              clear C6
              go_wp2_with fail
              refine (n1 _).mono ?_
              rintro e w7 ⟨rfl, rfl⟩
              go_wp2_with fail
              refine (n2 _).mono ?_
              rintro e w8 ⟨rfl, rfl⟩
              go_wp2_with fail
              go_meet
              case rel => exact ⟨rfl, rfl⟩
          · have c7 := C6.out rfl
            clear C6
            go_wp2_with fail
            refine (n1 _).mono ?_
            rintro e w7 ⟨rfl, rfl⟩
            go_wp2_with fail
            go_meet
            case rel => exact ⟨rfl, rfl⟩
        case rest =>
          obtain ⟨rfl, rfl⟩ := hcut
          clear C6 c1 c2 c3 c4 c5 hQ
          cases hn : na
          · have hra : rungOf (wd a) ≤ INF := by
              have h := NA.out
              rw [hn] at h
              have := of_decide_eq_false h.symm
              omega
            have D11 := d11 hra
            have D12 := d12 hra
            have D13 := d13 hra
            rw [hn] at n1
            clear d10 d11 d12 d13
            have r1 : (a != a) = false := by simp
            go_wp2_with fail
            refine (n1 _).mono ?_
            rintro e w7 ⟨rfl, rfl⟩
            go_upto_region 15 with fail
            go_cut [135] from 120 to 135 (fun s135 wy => s135 = .bool false ∧ Below w.heap.size w wy)
            case first =>
              clear d14 n1 n2 x1 x2 hF NA NB
              go_wp2_with fail
              refine (D11 _).mono ?_
              rintro e w8 ⟨rfl, b2⟩
              replace b4 := b4.trans (b2.mono b4.size); clear b2
              go_wp2_with fail
              refine (D12 _).mono ?_
              rintro e w9 ⟨rfl, b2⟩
              replace b4 := b4.trans (b2.mono b4.size); clear b2
              go_wp2_with fail
              refine (D13 _).mono ?_
              rintro e w10 ⟨rfl, b2⟩
              replace b4 := b4.trans (b2.mono b4.size); clear b2
              go_wp2_with fail
              go_meet
              case rel => exact ⟨rfl, b4⟩
            case rest =>
              obtain ⟨rfl, b5⟩ := hcut
              clear D11 D12 D13 b4 r1
              go_upto_region 17 with fail
              go_cut [156] from 136 to 156 (fun s156 wy => s156 = .bool false ∧ Below w.heap.size w wy)
              case first =>
                clear hF n1
                cases hm : nb
                · rw [hm] at n2
                  have hrb : rungOf (wd b) ≤ INF := by
                    have h := NB.out
                    rw [hm] at h
                    have := of_decide_eq_false h.symm
                    omega
                  obtain ⟨ra, hra'⟩ : ∃ r, r = rungOf (wd a) := ⟨_, rfl⟩
                  obtain ⟨rb, hrb'⟩ : ∃ r, r = rungOf (wd b) := ⟨_, rfl⟩
                  rw [← hra'] at x1
                  rw [← hrb'] at x2
                  have hI : INF = 9218868437227405312 := rfl
                  by_cases q1 : rungOf (wd a) = INF
                  · have y1 : ((ra : Int) != 9218868437227405312) = false := by
                      have : ra = 9218868437227405312 := by omega
                      simp [this]
                    clear d14 NA NB q1 hra hrb hra' hrb'
                    go_wp2_with fail
                    refine (n2 _).mono ?_
                    rintro e w9 ⟨rfl, rfl⟩
                    go_wp2_with fail
                    go_meet
                    case rel => exact ⟨rfl, b5⟩
                  · have y1 : ((ra : Int) != 9218868437227405312) = true := by
                      have : ¬ ra = 9218868437227405312 := by omega
                      simp; omega
                    by_cases q2 : rungOf (wd b) = INF
                    · have y2 : ((rb : Int) != 9218868437227405312) = false := by
                        have : rb = 9218868437227405312 := by omega
                        simp [this]
                      clear d14 NA NB q1 q2 hra hrb hra' hrb'
                      go_wp2_with fail
                      refine (n2 _).mono ?_
                      rintro e w9 ⟨rfl, rfl⟩
                      go_wp2_with fail
                      go_meet
                      case rel => exact ⟨rfl, b5⟩
                    · have y2 : ((rb : Int) != 9218868437227405312) = true := by
                        have : ¬ rb = 9218868437227405312 := by omega
                        simp; omega
                      have D14 := d14 (by omega) (by omega)
                      have y3 : ((L1 == 1) != (L1 == 1)) = false := by simp
                      clear d14 NA NB q1 q2 hra hrb hra' hrb'
                      go_wp2_with fail
                      refine (n2 _).mono ?_
                      rintro e w9 ⟨rfl, rfl⟩
                      go_wp2_with fail
                      refine (D14 _).mono ?_
                      rintro e w10 ⟨rfl, b2⟩
                      replace b5 := b5.trans (b2.mono b5.size); clear b2
                      go_wp2_with fail
                      go_meet
                      case rel => exact ⟨rfl, b5⟩
                · rw [hm] at n2
                  clear d14 NA NB x1 x2
                  go_wp2_with fail
                  refine (n2 _).mono ?_
                  rintro e w9 ⟨rfl, rfl⟩
                  go_wp2_with fail
                  go_meet
                  case rel => exact ⟨rfl, b5⟩
              case rest =>
                obtain ⟨rfl, b6⟩ := hcut
                go_wp2_with fail
                refine (hF _ b6).mono ?_
                rintro e w11 ⟨rfl, b2⟩
                replace b6 := b6.trans (b2.mono b6.size); clear b2
                go_wp2
                go_ret
                exact ⟨rfl, b6⟩
          · have hra : INF < rungOf (wd a) := by
              have h := NA.out
              rw [hn] at h
              exact of_decide_eq_true h.symm
            have D10 := d10 hra
            rw [hn] at n1
            clear d10 d11 d12 d13 d14 NA NB hra x1 x2 n2
            go_wp2_with fail
            refine (n1 _).mono ?_
            rintro e w7 ⟨rfl, rfl⟩
            go_wp2_with fail
            refine (D10 _).mono ?_
            rintro e w8 ⟨rfl, b2⟩
            replace b4 := b4.trans (b2.mono b4.size); clear b2
            go_wp2_with fail
            refine (hF _ b4).mono ?_
            rintro e w11 ⟨rfl, b2⟩
            replace b4 := b4.trans (b2.mono b4.size); clear b2
            go_wp2
            go_ret
            exact ⟨rfl, b4⟩
end Go.Proofs.YtadlppllbebkdaaGreatDoor
