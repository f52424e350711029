/- rightShift. -/
import Derived.Test.YtadlppllbebkdaaGreatDoorZDa
import Derived.Deep.CutBlock
namespace Go.Proofs.YtadlppllbebkdaaGreatDoor
open Go.RowKit

/-- Of how many powers of two up to the k-th it is no multiple. -/
def need (n : Nat) : Nat → Nat
  | 0 => 0
  | j + 1 => need n j + (if n % 2 ^ (j + 1) = 0 then 0 else 1)
theorem need_zero : ∀ k, need 0 k = 0
  | 0 => rfl
  | k + 1 => by unfold need; rw [need_zero k]; simp
theorem twice_dvd (n k v : Nat) (hv : v ≤ k) (h : n % 2 ^ v = 0) : (n % 2 ^ k * 10) % 2 ^ (v + 1) = 0 := by
  have e : n % 2 ^ k % 2 ^ v = 0 := by rw [Nat.mod_mod_of_dvd n (Nat.pow_dvd_pow 2 hv), h]
  obtain ⟨c, hc⟩ := Nat.dvd_of_mod_eq_zero e
  rw [hc, Nat.pow_succ, show 2 ^ v * c * 10 = 2 ^ v * 2 * (c * 5) by grind]
  exact Nat.mul_mod_right _ _
theorem need_le (n k : Nat) : ∀ j, j ≤ k → need (n % 2 ^ k * 10) (j + 1) ≤ need n j
  | 0, _ => by
    have := twice_dvd n k 0 (Nat.zero_le _) (by simp [Nat.mod_one])
    unfold need need
    rw [if_pos this]
    exact Nat.le_refl _
  | j + 1, h => by
    have ih := need_le n k j (by omega)
    have e1 : need (n % 2 ^ k * 10) (j + 1 + 1) = need (n % 2 ^ k * 10) (j + 1) + (if (n % 2 ^ k * 10) % 2 ^ (j + 1 + 1) = 0 then 0 else 1) := rfl
    have e2 : need n (j + 1) = need n j + (if n % 2 ^ (j + 1) = 0 then 0 else 1) := rfl
    rw [e1, e2]
    by_cases hd : n % 2 ^ (j + 1) = 0
    · rw [if_pos hd, if_pos (twice_dvd n k (j + 1) h hd)]; omega
    · rw [if_neg hd]; split <;> omega
def left (k n : Nat) : Nat := need n k + (if n = 0 then 0 else 1)
theorem left_less {n k : Nat} (hk : 1 ≤ k) (hn : n ≠ 0) : left k (n % 2 ^ k * 10) < left k n := by
  unfold left
  rw [if_neg hn]
  by_cases h : n % 2 ^ k = 0
  · rw [h, Nat.zero_mul, need_zero, if_pos rfl]; omega
  · have := need_le n k (k - 1) (by omega)
    rw [show k - 1 + 1 = k by omega] at this
    obtain ⟨j, rfl⟩ : ∃ j, k = j + 1 := ⟨k - 1, by omega⟩
    rw [show j + 1 - 1 = j by omega] at this
    have e2 : need n (j + 1) = need n j + (if n % 2 ^ (j + 1) = 0 then 0 else 1) := rfl
    rw [if_neg h] at e2
    rw [if_neg (by omega)]
    omega

theorem digs_put {g : Nat → Nat} {n v : Nat} (h : Digs g n) (h1 : 48 ≤ v) (h2 : v ≤ 57) : Digs (put g n v) (n + 1) := fun i hi => by
  by_cases e : i = n
  · subst e; rw [put_same]; exact ⟨h1, h2⟩
  · rw [put_ne g v e]; exact h i (by omega)

theorem div_P (k P : Nat) (hP : 2 ^ k = P) (n : Nat) : (n : Int) / 2 ^ k = ((n / P : Nat) : Int) := by rw [← hP]; push_cast; rfl
theorem and_P (k P : Nat) (hP : 2 ^ k = P) (hk : k ≤ 60) (n : Nat) (hn : n < 18446744073709551616) : bits .and .u64 (n : Int) ((P : Int) - 1) = ((n % P : Nat) : Int) := by
  have p1 : 1 ≤ P := by rw [← hP]; exact Nat.pow_pos (by decide)
  have p2 : P ≤ 1152921504606846976 := by rw [← hP]; exact Nat.pow_le_pow_right (n := 2) (by decide) hk
  have := u64_and_nat n (P - 1) hn (by omega)
  rw [← hP, Nat.and_two_pow_sub_one_eq_mod, hP] at this
  rw [← this]
  congr 1
  omega

/-- The digits so far, when a row is halved k times. -/
structure Halved (g : Nat → Nat) (n0 P : Nat) (wd n : Nat) (g' : Nat → Nat) : Prop where
  lt : n < 10 * P
  digs : Digs g' wd
  none_ : wd = 0 → n = n0
  first : 1 ≤ wd → g' 0 = 48 + n0 / P

set_option maxRecDepth 100000 in
set_option maxHeartbeats 2000000 in
theorem right_any (B q nd k : Nat) (g : Nat → Nat) (dp : Int) (neg tr : Bool) (h1 : 1 ≤ nd) (h2 : nd ≤ 800) (hg : Digs g nd) (h0 : 49 ≤ g 0) (k1 : 1 ≤ k) (k2 : k ≤ 60) (hd1 : -1000000 ≤ dp) (hd2 : dp ≤ 1000000) (w : World) (D : Dr B q w g nd dp neg tr) :
    Calls Tryz.prog 139 #[.pointer (some ⟨q, 0, none⟩), .int .u64 k] w fun e w' => e = .returned (.tuple #[]) ∧ ∃ (g' : Nat → Nat) (nd' r : Nat) (tr' : Bool), 1 ≤ r ∧ r ≤ 20 ∧ (r = 1 → 2 ^ k ≤ g 0 - 48 ∧ g' 0 = 48 + (g 0 - 48) / 2 ^ k) ∧ 1 ≤ nd' ∧ nd' ≤ 800 ∧ Digs g' nd' ∧ 49 ≤ g' 0 ∧ Dr B q w' g' nd' (dp - ((r : Int) - 1)) neg tr' ∧ Below B w w' := by
  obtain ⟨P, hP⟩ : ∃ P, Hid (2 ^ k = P) := ⟨_, Lib.hid rfl⟩
  rw [hP.out]
  have p1 : 2 ≤ P := by rw [← hP.out]; exact Nat.pow_le_pow_right (n := 2) (by decide) k1
  have p2 : P ≤ 1152921504606846976 := by rw [← hP.out]; exact Nat.pow_le_pow_right (n := 2) (by decide) k2
  have m1 : IntKind.u64.wrap (1 * 2 ^ k) = (P : Int) := by
    rw [Int.one_mul, show (2 : Int) ^ k = (P : Int) by rw [← hP.out]; push_cast; rfl, wrap_u64]; omega
  have m2 : IntKind.u64.wrap (2 ^ k) = (P : Int) := by
    rw [show (2 : Int) ^ k = (P : Int) by rw [← hP.out]; push_cast; rfl, wrap_u64]; omega
  have HD := Lib.hid D
  have HG := Lib.hid hg
  clear D hg
  go_enter Tryz.func139, Tryz.ntmps139
  go_upto_block 0 with fail
  go_cut [4, 6, 7] from 12 to 48 (fun s4 s6 _ wy => ∃ r n : Nat, s4 = .int .i64 r ∧ s6 = .int .u64 n ∧ 1 ≤ r ∧ r ≤ 20 ∧ P ≤ n ∧ n < 10 * P ∧ Hid (r = 1 → n = g 0 - 48) ∧ wy = w)
  case first =>
    go_wp2_with fail
    go_loopw [4, 6, 7] (fun s4 s6 _ wr => ∃ r n : Nat, s4 = .int .i64 r ∧ s6 = .int .u64 n ∧ r ≤ nd ∧ Hid (n = dval g r) ∧ n < 10 * P ∧ Hid (r ≤ 20) ∧ wr = w) (fun s4 _ _ _ => nd - (intOf s4).toNat)
    case atStart => exact ⟨0, 0, rfl, rfl, Nat.zero_le _, Lib.hid rfl, by omega, Lib.hid (by omega), rfl⟩
    case round =>
      obtain ⟨r, n, rfl, rfl, hr, HN, hn, HR, rfl⟩ := hrel
      have c1 := HD.out.ndc
      obtain ⟨z, hz⟩ : ∃ z, Hid (n / P = z) := ⟨_, rfl⟩
      have ez : (n : Int) / 2 ^ k = (z : Int) := by rw [div_P k P hP.out, hz.out]
      by_cases hz0 : z = 0
      · have dz : ((z : Int) == 0) = true := by rw [beq_iff_eq]; omega
        have nP : n < P := by
          rcases Nat.lt_or_ge n P with h | h
          · exact h
          · have := Nat.div_pos h (by omega : 0 < P)
            rw [hz.out] at this; omega
        have r19 : r ≤ 19 := by
          rcases Nat.lt_or_ge 19 r with h | h
          · have e1 := dval_ge h0 r (by omega)
            have e2 : 10 ^ 19 ≤ 10 ^ (r - 1) := Nat.pow_le_pow_right (by decide) (by omega)
            rw [← HN.out] at e1
            omega
          · exact h
        have hz0' := Lib.hid hz0
        clear hz0
        by_cases hrn : r < nd
        · have d1 : decide ((nd : Int) ≤ (r : Int)) = false := by simp; omega
          have c2 := HD.out.dig r (by omega)
          have gd := HG.out r hrn
          obtain ⟨x, hx⟩ : ∃ x, Hid (g r = x) := ⟨_, rfl⟩
          rw [hx.out] at c2 gd
          obtain ⟨n2, hn2⟩ : ∃ n2, Hid (n * 10 + (x - 48) = n2) := ⟨_, rfl⟩
          have en2 : (n : Int) * 10 + (x : Int) - 48 = (n2 : Int) := by have := hn2.out; omega
          have HN2 : Hid (n2 = dval g (r + 1)) := Lib.hid (by
            show n2 = dval g r * 10 + (g r - 48)
            rw [← HN.out, hx.out, hn2.out])
          have hn3 : n2 < 10 * P := by have := hn2.out; omega
          go_wp2_with fail
          exact ⟨⟨r + 1, n2, rfl, rfl, hrn, HN2, hn3, Lib.hid (by omega), trivial⟩, by simp [intOf]; omega⟩
        · have d1 : (nd : Int) ≤ (r : Int) := by omega
          have n1 : Hid (10 ^ (r - 1) ≤ n) := Lib.hid (by rw [HN.out]; exact dval_ge h0 r (by omega))
          have n0 : 1 ≤ n := by have := n1.out; have := Nat.pow_pos (n := r - 1) (show 0 < 10 by decide); omega
          have d2 : ((n : Int) == 0) = false := by rw [beq_eq_false_iff_ne]; omega
          have hr1 : 1 ≤ r := by omega
          have HR1 : Hid (r = 1 → n = g 0 - 48) := Lib.hid (fun e => by rw [HN.out, e]; simp [dval])
          have ern := Lib.hid (show r = nd by omega)
          clear HN HR hz0'
          go_wp2_with fail
          go_loopw [4, 6] (fun s4 s6 wx => ∃ r n : Nat, s4 = .int .i64 r ∧ s6 = .int .u64 n ∧ 1 ≤ r ∧ 1 ≤ n ∧ n < 10 * P ∧ Hid (10 ^ (r - 1) ≤ n) ∧ Hid (r ≤ 20) ∧ Hid (r = 1 → n = g 0 - 48) ∧ wx = wr) (fun _ s6 _ => 10 * P - (intOf s6).toNat)
          case atStart => exact ⟨r, n, rfl, rfl, hr1, n0, hn, n1, Lib.hid (by omega), HR1, rfl⟩
          case round =>
            clear n1 n0 d2 hr1 HR1 ern d1 r19 nP dz ez hz hn hr hrn
            obtain ⟨r, n, rfl, rfl, hr1, n0, hn, n1, HR, HR1, rfl⟩ := hrel
            obtain ⟨z, hz⟩ : ∃ z, Hid (n / P = z) := ⟨_, Lib.hid rfl⟩
            have ez : (n : Int) / 2 ^ k = (z : Int) := by rw [div_P k P hP.out, hz.out]
            by_cases hz0 : z = 0
            · have dz : ((z : Int) == 0) = true := by rw [beq_iff_eq]; omega
              have nP : n < P := by
                rcases Nat.lt_or_ge n P with h | h
                · exact h
                · have := Nat.div_pos h (by omega : 0 < P)
                  rw [hz.out] at this; omega
              have r19 : r ≤ 19 := by
                rcases Nat.lt_or_ge 19 r with h | h
                · have e1 := n1.out
                  have e2 : 10 ^ 19 ≤ 10 ^ (r - 1) := Nat.pow_le_pow_right (by decide) (by omega)
                  omega
                · exact h
              have n1' : Hid (10 ^ (r + 1 - 1) ≤ n * 10) := Lib.hid (by
                have := n1.out
                obtain ⟨j, rfl⟩ : ∃ j, r = j + 1 := ⟨r - 1, by omega⟩
                rw [show j + 1 + 1 - 1 = j + 1 by omega, Nat.pow_succ]
                rw [show j + 1 - 1 = j by omega] at this
                omega)
              obtain ⟨n2, hn2⟩ : ∃ n2, Hid (n * 10 = n2) := ⟨_, Lib.hid rfl⟩
              have en2 : (n : Int) * 10 = (n2 : Int) := by have := hn2.out; omega
              rw [hn2.out] at n1'
              have b2 : n2 < 10 * P := by have := hn2.out; omega
              have b3 : n < n2 := by have := hn2.out; omega
              have hz0' := Lib.hid hz0
              clear hz0
              go_wp2_with fail
              exact ⟨⟨r + 1, n2, rfl, rfl, by omega, by omega, b2, n1', Lib.hid (by omega), Lib.hid (fun e => by omega), trivial⟩, by simp [intOf]; omega⟩
            · have dz : ((z : Int) == 0) = false := by rw [beq_eq_false_iff_ne]; omega
              have nP : P ≤ n := by
                rcases Nat.lt_or_ge n P with h | h
                · have := Nat.div_eq_of_lt h; rw [hz.out] at this; omega
                · exact h
              go_wp2_with fail
              go_meet
              exact ⟨r, n, rfl, rfl, hr1, HR.out, nP, hn, HR1, rfl⟩
      · have dz : ((z : Int) == 0) = false := by rw [beq_eq_false_iff_ne]; omega
        have nP : P ≤ n := by
          rcases Nat.lt_or_ge n P with h | h
          · have := Nat.div_eq_of_lt h; rw [hz.out] at this; omega
          · exact h
        have hr1 : 1 ≤ r := by
          rcases Nat.eq_zero_or_pos r with h | h
          · have := HN.out; rw [h] at this; simp only [dval] at this; omega
          · exact h
        have HR1 : Hid (r = 1 → n = g 0 - 48) := Lib.hid (fun e => by rw [HN.out, e]; simp [dval])
        go_wp2_with fail
        go_meet
        exact ⟨r, n, rfl, rfl, hr1, HR.out, nP, hn, HR1, rfl⟩
  case rest =>
    obtain ⟨r0, n0, rfl, rfl, hr1, hr20, nP, hn, HR1, hwc⟩ := hcut
    obtain rfl : w = wc := hwc.symm
    obtain ⟨f0, hf0⟩ : ∃ f, Hid (n0 / P = f) := ⟨_, Lib.hid rfl⟩
    have f1 : 1 ≤ f0 := by rw [← hf0.out]; exact Nat.div_pos nP (by omega)
    have f9 : f0 ≤ 9 := by
      have := Nat.div_lt_of_lt_mul (show n0 < P * 10 by omega)
      rw [hf0.out] at this; omega
    have c0 := HD.out.dpc
    have z1 := HD.out.frz 801
    obtain ⟨d1, hd⟩ : ∃ d, Hid (dp - ((r0 : Int) - 1) = d) := ⟨_, Lib.hid rfl⟩
    have ed := hd.out
    have D1 := Lib.hid (HD.out.putDp d1)
    have B1 : Below B w (w.setCell ⟨q, 801, none⟩ (.int .i64 d1)) := (Below.refl B w).setCell HD.out.le _
    obtain ⟨W1, hW1⟩ : ∃ W, Hid (w.setCell ⟨q, 801, none⟩ (.int .i64 d1) = W) := ⟨_, Lib.hid rfl⟩
    go_upto_block 4 with fail
    rw [hW1.out] at D1 B1 ⊢
    go_cut [4, 5, 6, 9, 10] from 61 to 96 (fun s4 s5 s6 _ _ wy => ∃ (wd n : Nat) (g' : Nat → Nat), s5 = .int .i64 wd ∧ s6 = .int .u64 n ∧ wd ≤ 800 ∧ n < 10 * P ∧ Hid (Halved g n0 P wd n g') ∧ Hid (Dr B q wy g' nd d1 neg tr) ∧ Below B w wy)
    case first =>
      go_wp2_with fail
      go_loopw [4, 5, 6, 9, 10] (fun s4 s5 s6 _ _ wr => ∃ (r wd n : Nat) (g' : Nat → Nat), s4 = .int .i64 r ∧ s5 = .int .i64 wd ∧ s6 = .int .u64 n ∧ wd + r0 = r ∧ (wd = 0 ∨ r ≤ nd) ∧ n < 10 * P ∧ Hid (Halved g n0 P wd n g') ∧ Hid (∀ i, wd ≤ i → g' i = g i) ∧ Hid (Dr B q wr g' nd d1 neg tr) ∧ Below B w wr) (fun s4 _ _ _ _ _ => nd - (intOf s4).toNat)
      case atStart => exact ⟨r0, 0, n0, g, rfl, rfl, rfl, by omega, .inl rfl, hn, Lib.hid ⟨hn, fun i hi => absurd hi (Nat.not_lt_zero i), fun _ => rfl, fun h => absurd h (by decide)⟩, Lib.hid fun _ _ => rfl, D1, B1⟩
      case round =>
        clear D1 B1 c0 z1
        obtain ⟨r, wd, n, g', rfl, rfl, rfl, er, hw, hn2, HH, HS, HX, hb⟩ := hrel
        have c1 := HX.out.ndc
        by_cases hrn : r < nd
        · have d3 : (r : Int) < (nd : Int) := by omega
          have c2 := HX.out.dig r (by omega)
          have gd := HG.out r hrn
          have es := HS.out r (by omega)
          rw [es] at c2
          obtain ⟨x, hx⟩ : ∃ x, Hid (g r = x) := ⟨_, Lib.hid rfl⟩
          rw [hx.out] at c2 gd
          obtain ⟨z, hz⟩ : ∃ z, Hid (n / P = z) := ⟨_, Lib.hid rfl⟩
          have ez : (n : Int) / 2 ^ k = (z : Int) := by rw [div_P k P hP.out, hz.out]
          have z9 : z ≤ 9 := by
            have := Nat.div_lt_of_lt_mul (show n < P * 10 by omega)
            rw [hz.out] at this; omega
          obtain ⟨m, hm⟩ : ∃ m, Hid (n % P = m) := ⟨_, Lib.hid rfl⟩
          have em : bits .and .u64 (n : Int) ((P : Int) - 1) = (m : Int) := by rw [and_P k P hP.out k2 n (by omega), hm.out]
          have mP : m < P := by rw [← hm.out]; exact Nat.mod_lt _ (by omega)
          obtain ⟨v, hv⟩ : ∃ v, Hid (48 + z = v) := ⟨_, Lib.hid rfl⟩
          have ev : (z : Int) + 48 = (v : Int) := by have := hv.out; omega
          have v1 : 48 ≤ v := by have := hv.out; omega
          have v2 : v ≤ 57 := by have := hv.out; omega
          obtain ⟨n2, hn2'⟩ : ∃ n2, Hid (m * 10 + (x - 48) = n2) := ⟨_, Lib.hid rfl⟩
          have en2 : (m : Int) * 10 + (x : Int) - 48 = (n2 : Int) := by have := hn2'.out; omega
          have hn3 : n2 < 10 * P := by have := hn2'.out; omega
          have w800 : wd < 800 := by omega
          have zf := HX.out.frz wd
          obtain ⟨y, cy⟩ : ∃ y, wr.cell? ⟨q, wd, none⟩ = some y := ⟨_, HX.out.dig wd w800⟩
          have HX' := Lib.hid (HX.out.putD w800 v)
          have HS' : Hid (∀ i, wd + 1 ≤ i → put g' wd v i = g i) := Lib.hid (fun i hi => by rw [put_ne g' v (by omega)]; exact HS.out i (by omega))
          have HH' : Hid (Halved g n0 P (wd + 1) n2 (put g' wd v)) := Lib.hid ⟨hn3, digs_put HH.out.digs v1 v2, fun h => absurd h (by omega), fun _ => by
            by_cases e : wd = 0
            · subst e
              rw [put_same, ← hv.out, ← hz.out, HH.out.none_ rfl]
            · rw [put_ne g' v (by omega)]; exact HH.out.first (by omega)⟩
          have hb' : Below B w (wr.setCell ⟨q, wd, none⟩ (.int .u8 (v : Int))) := hb.setCell HX.out.le _
          clear hw HH HS HX es
          go_wp2_with fail
          exact ⟨⟨r + 1, wd + 1, n2, _, rfl, rfl, rfl, by omega, .inr (by omega), hn3, HH', HS', HX', hb'⟩, by simp [intOf]; omega⟩
        · have d3 : decide ((r : Int) < (nd : Int)) = false := by simp; omega
          have w8 : wd ≤ 800 := by omega
          clear hw
          go_wp2_with fail
          go_meet
          exact ⟨wd, n, g', rfl, rfl, w8, hn2, HH, HX, hb⟩
    case rest =>
      clear D1 B1 c0 z1
      obtain ⟨wd0, n1, g1, rfl, rfl, w8, hn1, HH1, HX1, hb1⟩ := hcut
      go_upto_block 6 with fail
      go_cut [5, 6, 11] from 97 to 123 (fun s5 s6 _ wy => ∃ (wd : Nat) (g' : Nat → Nat) (tr' : Bool), s5 = .int .i64 wd ∧ 1 ≤ wd ∧ wd ≤ 800 ∧ Hid (Digs g' wd ∧ g' 0 = 48 + f0) ∧ Hid (Dr B q wy g' nd d1 neg tr') ∧ Below B w wy)
      case first =>
        go_wp2_with fail
        go_loopw [5, 6, 11] (fun s5 s6 _ wr => ∃ (wd n : Nat) (g' : Nat → Nat) (tr' : Bool), s5 = .int .i64 wd ∧ s6 = .int .u64 n ∧ wd ≤ 800 ∧ n < 10 * P ∧ Hid (Halved g n0 P wd n g') ∧ Hid (Dr B q wr g' nd d1 neg tr') ∧ Below B w wr) (fun _ s6 _ _ => left k (intOf s6).toNat)
        case atStart => exact ⟨wd0, n1, g1, tr, rfl, rfl, w8, hn1, HH1, HX1, hb1⟩
        case round =>
          clear HH1 HX1 hb1 hn1 w8
          obtain ⟨wd, n, g', tr', rfl, rfl, w8, hn2, HH, HX, hb⟩ := hrel
          by_cases hn0 : 0 < n
          · have d3 : (0 : Int) < (n : Int) := by omega
            obtain ⟨z, hz⟩ : ∃ z, Hid (n / P = z) := ⟨_, Lib.hid rfl⟩
            have ez : (n : Int) / 2 ^ k = (z : Int) := by rw [div_P k P hP.out, hz.out]
            have z9 : z ≤ 9 := by
              have := Nat.div_lt_of_lt_mul (show n < P * 10 by omega)
              rw [hz.out] at this; omega
            obtain ⟨m, hm⟩ : ∃ m, Hid (n % P = m) := ⟨_, Lib.hid rfl⟩
            have em : bits .and .u64 (n : Int) ((P : Int) - 1) = (m : Int) := by rw [and_P k P hP.out k2 n (by omega), hm.out]
            have mP : m < P := by rw [← hm.out]; exact Nat.mod_lt _ (by omega)
            obtain ⟨v, hv⟩ : ∃ v, Hid (48 + z = v) := ⟨_, Lib.hid rfl⟩
            have ev : (z : Int) + 48 = (v : Int) := by have := hv.out; omega
            have v1 : 48 ≤ v := by have := hv.out; omega
            have v2 : v ≤ 57 := by have := hv.out; omega
            obtain ⟨n2, hn2'⟩ : ∃ n2, Hid (m * 10 = n2) := ⟨_, Lib.hid rfl⟩
            have en2 : (m : Int) * 10 = (n2 : Int) := by have := hn2'.out; omega
            have hn3 : n2 < 10 * P := by have := hn2'.out; omega
            have LL : Hid (left k n2 < left k n) := Lib.hid (by
              have := left_less (n := n) k1 (by omega)
              rw [hP.out, hm.out, hn2'.out] at this
              exact this)
            by_cases w800 : wd < 800
            · have d4 : (wd : Int) < 800 := by omega
              have zf := HX.out.frz wd
              obtain ⟨y, cy⟩ : ∃ y, wr.cell? ⟨q, wd, none⟩ = some y := ⟨_, HX.out.dig wd w800⟩
              have HX' := Lib.hid (HX.out.putD w800 v)
              have HH' : Hid (Halved g n0 P (wd + 1) n2 (put g' wd v)) := Lib.hid ⟨hn3, digs_put HH.out.digs v1 v2, fun h => absurd h (by omega), fun _ => by
                by_cases e : wd = 0
                · subst e
                  rw [put_same, ← hv.out, ← hz.out, HH.out.none_ rfl]
                · rw [put_ne g' v (by omega)]; exact HH.out.first (by omega)⟩
              have hb' : Below B w (wr.setCell ⟨q, wd, none⟩ (.int .u8 (v : Int))) := hb.setCell HX.out.le _
              clear HH HX
              go_wp2_with fail
              exact ⟨⟨wd + 1, n2, _, tr', rfl, rfl, w800, hn3, HH', HX', hb'⟩, LL.out⟩
            · have d4 : decide ((wd : Int) < 800) = false := by simp; omega
              have d4' : (800 : Int) ≤ (wd : Int) := by omega
              have HH' : Hid (Halved g n0 P wd n2 g') := Lib.hid ⟨hn3, HH.out.digs, fun h => absurd h (by omega), HH.out.first⟩
              have zf := HX.out.frz 803
              have cy := HX.out.trc
              by_cases hz0 : 0 < z
              · have d5 : (0 : Int) < (z : Int) := by omega
                have HX' := Lib.hid (HX.out.putTr true)
                have hb' : Below B w (wr.setCell ⟨q, 803, none⟩ (.bool true)) := hb.setCell HX.out.le _
                clear HH HX
                go_wp2_with fail
                exact ⟨⟨wd, n2, g', true, rfl, rfl, w8, hn3, HH', HX', hb'⟩, LL.out⟩
              · have d5 : decide ((0 : Int) < (z : Int)) = false := by simp; omega
                have d5' : decide (0 < z) = false := by simp; omega
                clear HH
                go_wp2_with fail
                exact ⟨⟨wd, n2, g', tr', rfl, rfl, w8, hn3, HH', HX, hb⟩, LL.out⟩
          · have d3 : decide ((0 : Int) < (n : Int)) = false := by simp; omega
            have d3' : decide (0 < n) = false := by simp; omega
            have w1 : 1 ≤ wd := by
              rcases Nat.eq_zero_or_pos wd with h | h
              · have := HH.out.none_ h; omega
              · exact h
            have HQ : Hid (Digs g' wd ∧ g' 0 = 48 + f0) := Lib.hid ⟨HH.out.digs, by rw [← hf0.out]; exact HH.out.first w1⟩
            go_wp2_with fail
            go_meet
            exact ⟨wd, g', tr', rfl, w1, w8, HQ, HX, hb⟩
      case rest =>
        clear HH1 HX1 hb1 hn1 w8
        obtain ⟨wd, g', tr', rfl, w1, w8, HQ, HX, hb⟩ := hcut
        have z1 := HX.out.frz 800
        have c1 := HX.out.ndc
        have HX' := HX.out.putNd wd
        have hT := dtrim_any B q wd g' d1 neg tr' w1 w8 (by have := HQ.out.2; omega) _ HX'
        have hb' : Below B w (wc.setCell ⟨q, 800, none⟩ (.int .i64 (wd : Int))) := hb.setCell HX.out.le _
        obtain ⟨W2, hW2⟩ : ∃ W, Hid (wc.setCell ⟨q, 800, none⟩ (.int .i64 (wd : Int)) = W) := ⟨_, Lib.hid rfl⟩
        rw [hW2.out] at hT hb'
        go_upto_region 33 with fail
        rw [hW2.out]
        go_wp2_with fail
        refine hT.mono ?_
        rintro e w3 ⟨rfl, nd', a1, a2, DX, b3⟩
        go_wp2_with fail
        refine bodyPost_end (results_none rfl _ _ _) rfl ?_
        refine ⟨rfl, g', nd', r0, tr', hr1, hr20, ?_, a1, by omega, HQ.out.1.le a2, by have := HQ.out.2; omega, by rw [hd.out]; exact DX, hb'.trans b3⟩
        intro e
        have e2 := HR1.out e
        refine ⟨by omega, ?_⟩
        rw [HQ.out.2, ← hf0.out, e2]
end Go.Proofs.YtadlppllbebkdaaGreatDoor
