/- Unrounded scaling: a number times a power of ten, out of a table of 128 bits a row. -/
import GoSem.PinnedTables
namespace Go.Proofs.YtalaajniammggaaGreatDoor

/-- Of the numbers below a bound none times a has a rest by M that is near 0: the search. -/
def seek (N B : Nat) : Nat → Nat → Nat → Nat → Nat → Bool
  | 0, _, _, _, _ => false
  | f + 1, x1, r1, x2, r2 =>
    bif Nat.ble (N + 1) (x1 + x2) then (Nat.ble (B + 1) r1 && Nat.ble B r2) else
    bif Nat.beq r1 0 || Nat.beq r2 0 then false else
    bif Nat.ble r2 r1 then
      seek N B f (x1 + (bif Nat.ble (r1 / r2) ((N - x1) / x2 + 1) then r1 / r2 else (N - x1) / x2 + 1) * x2) (r1 - (bif Nat.ble (r1 / r2) ((N - x1) / x2 + 1) then r1 / r2 else (N - x1) / x2 + 1) * r2) x2 r2
    else
      seek N B f x1 r1 (x2 + (bif Nat.ble (r2 / r1) ((N - x2) / x1 + 1) then r2 / r1 else (N - x2) / x1 + 1) * x1) (r2 - (bif Nat.ble (r2 / r1) ((N - x2) / x1 + 1) then r2 / r1 else (N - x2) / x1 + 1) * r1)

/-- Two rests, one above and one below. -/
structure Nears (a M x1 r1 x2 r2 : Nat) : Prop where
  det : x1 * r2 + x2 * r1 = M
  up : ∃ k : Int, (a : Int) * x1 = r1 + M * k
  down : ∃ k : Int, (a : Int) * x2 = -r2 + M * k
  one : 0 < x1

theorem pos_of_mul {u M t : Int} (hM : 0 < M) (h : u * M = t) (ht : 0 < t) : 1 ≤ u := by
  rcases Int.lt_or_le 0 u with h1 | h1
  · omega
  · have := Int.mul_le_mul_of_nonneg_right h1 (Int.le_of_lt hM)
    omega

theorem nears_far {a M x1 r1 x2 r2 N B : Nat} (h : Nears a M x1 r1 x2 r2) (hB : 0 < B) (hN : N < x1 + x2) (h1 : B < r1) (h2 : B ≤ r2) (z : Nat) (hz0 : 0 < z) (hz : z ≤ N) : B < z * a % M ∧ z * a % M + B ≤ M := by
  obtain ⟨k1, e1⟩ := h.up
  obtain ⟨k2, e2⟩ := h.down
  have hd := h.det
  have hM : 0 < M := by
    have : 0 < x1 * r2 := Nat.mul_pos h.one (by omega)
    omega
  obtain ⟨r, hr⟩ : ∃ r, r = z * a % M := ⟨_, rfl⟩
  obtain ⟨k, hk⟩ : ∃ k, k = z * a / M := ⟨_, rfl⟩
  have hrM : r < M := by rw [hr]; exact Nat.mod_lt _ hM
  have hza : M * k + r = z * a := by rw [hk, hr]; exact Nat.div_add_mod _ _
  rw [← hr]
  clear hr hk
  have hdI : (x1 : Int) * r2 + x2 * r1 = M := by exact_mod_cast hd
  have hzI : (M : Int) * k + r = z * a := by exact_mod_cast hza
  have hMI : (0 : Int) < M := by omega
  have key : ∀ (k r' : Int), (M : Int) * k + r' = z * a → ∃ u v : Int, u * M = z * r2 + x2 * r' ∧ v * M = z * r1 - x1 * r' ∧ u * x1 + v * x2 = z ∧ u * r1 - v * r2 = r' := by
    intro k r' hk
    refine ⟨z * k2 - x2 * k, x1 * k - z * k1, by grind, by grind, ?_, ?_⟩
    · apply Int.eq_of_mul_eq_mul_right (Int.ne_of_gt hMI)
      grind
    · apply Int.eq_of_mul_eq_mul_right (Int.ne_of_gt hMI)
      grind
  have big : ∀ u v : Int, 1 ≤ u → 1 ≤ v → u * x1 + v * x2 = z → False := by
    intro u v hu hv e
    have f1 := Int.mul_le_mul_of_nonneg_right hu (show (0 : Int) ≤ x1 by omega)
    have f2 := Int.mul_le_mul_of_nonneg_right hv (show (0 : Int) ≤ x2 by omega)
    omega
  constructor
  · obtain ⟨u, v, hu, hv, h3, h4⟩ := key k r hzI
    have hu1 : 1 ≤ u := pos_of_mul hMI hu (by
      have g1 := Int.mul_pos (show (0 : Int) < z by omega) (show (0 : Int) < r2 by omega)
      have g2 := Int.mul_nonneg (show (0 : Int) ≤ x2 by omega) (show (0 : Int) ≤ r by omega)
      omega)
    have hv0 : v ≤ 0 := by
      rcases Int.lt_or_le 0 v with hv1 | hv1
      · exact (big u v hu1 hv1 h3).elim
      · exact hv1
    have f1 := Int.mul_le_mul_of_nonneg_right hu1 (show (0 : Int) ≤ r1 by omega)
    have f2 := Int.mul_le_mul_of_nonneg_right hv0 (show (0 : Int) ≤ r2 by omega)
    omega
  · obtain ⟨u, v, hu, hv, h3, h4⟩ := key (k + 1) (r - M) (by grind)
    have hv1 : 1 ≤ v := pos_of_mul hMI hv (by
      have g1 := Int.mul_pos (show (0 : Int) < z by omega) (show (0 : Int) < r1 by omega)
      have g2 := Int.mul_le_mul_of_nonneg_left (show (r : Int) - M ≤ 0 by omega) (show (0 : Int) ≤ x1 by omega)
      omega)
    have hu0 : u ≤ 0 := by
      rcases Int.lt_or_le 0 u with hu1 | hu1
      · exact (big u v hu1 hv1 h3).elim
      · exact hu1
    have f1 := Int.mul_le_mul_of_nonneg_right hu0 (show (0 : Int) ≤ r1 by omega)
    have f2 := Int.mul_le_mul_of_nonneg_right hv1 (show (0 : Int) ≤ r2 by omega)
    omega

theorem Nears.first {a M x1 r1 x2 r2 : Nat} (h : Nears a M x1 r1 x2 r2) (q : Nat) (hq : q * r2 ≤ r1) : Nears a M (x1 + q * x2) (r1 - q * r2) x2 r2 := by
  obtain ⟨k1, e1⟩ := h.up
  obtain ⟨k2, e2⟩ := h.down
  have hd := h.det
  obtain ⟨r, hr⟩ : ∃ r, r1 = r + q * r2 := ⟨r1 - q * r2, by omega⟩
  have e : r1 - q * r2 = r := by omega
  rw [e]
  subst hr
  refine ⟨by grind, ⟨k1 + q * k2, ?_⟩, ⟨k2, e2⟩, by have := h.one; omega⟩
  push_cast at e1 ⊢
  grind
theorem Nears.second {a M x1 r1 x2 r2 : Nat} (h : Nears a M x1 r1 x2 r2) (q : Nat) (hq : q * r1 ≤ r2) : Nears a M x1 r1 (x2 + q * x1) (r2 - q * r1) := by
  obtain ⟨k1, e1⟩ := h.up
  obtain ⟨k2, e2⟩ := h.down
  have hd := h.det
  obtain ⟨r, hr⟩ : ∃ r, r2 = r + q * r1 := ⟨r2 - q * r1, by omega⟩
  have e : r2 - q * r1 = r := by omega
  rw [e]
  subst hr
  refine ⟨by grind, ⟨k1, e1⟩, ⟨k2 + q * k1, ?_⟩, h.one⟩
  push_cast at e2 ⊢
  grind

theorem cut_le (a b n : Nat) : (bif Nat.ble (a / b) n then a / b else n) * b ≤ a := by
  have h := Nat.div_mul_le_self a b
  cases hc : Nat.ble (a / b) n with
  | true => exact h
  | false =>
    have h1 : ¬ a / b ≤ n := fun h => by rw [Nat.ble_eq_true_of_le h] at hc; cases hc
    show n * b ≤ a
    exact Nat.le_trans (Nat.mul_le_mul_right b (by omega)) h

theorem seek_far {a M N B : Nat} (hB : 0 < B) : ∀ (f x1 r1 x2 r2 : Nat), Nears a M x1 r1 x2 r2 → seek N B f x1 r1 x2 r2 = true → ∀ z, 0 < z → z ≤ N → B < z * a % M ∧ z * a % M + B ≤ M
  | 0, _, _, _, _, _, h => by simp [seek] at h
  | f + 1, x1, r1, x2, r2, hn, h => by
    unfold seek at h
    cases h1 : Nat.ble (N + 1) (x1 + x2) with
    | true =>
      rw [h1] at h
      simp only [cond_true, Bool.and_eq_true] at h
      exact fun z hz0 hz => nears_far hn hB (Nat.le_of_ble_eq_true h1) (Nat.le_of_ble_eq_true h.1) (Nat.le_of_ble_eq_true h.2) z hz0 hz
    | false =>
      rw [h1] at h
      simp only [cond_false] at h
      cases h2 : (Nat.beq r1 0 || Nat.beq r2 0) with
      | true => rw [h2] at h; simp at h
      | false =>
        rw [h2] at h
        simp only [cond_false] at h
        cases h3 : Nat.ble r2 r1 with
        | true =>
          rw [h3] at h
          simp only [cond_true] at h
          exact seek_far hB f _ _ _ _ (hn.first _ (cut_le r1 r2 _)) h
        | false =>
          rw [h3] at h
          simp only [cond_false] at h
          exact seek_far hB f _ _ _ _ (hn.second _ (cut_le r2 r1 _)) h

theorem seek_start (a M : Nat) : Nears a M 1 (a % M) 0 M := by
  refine ⟨by omega, ⟨a / M, ?_⟩, ⟨1, by simp; omega⟩, by omega⟩
  have := Nat.div_add_mod a M
  have h2 : ((M * (a / M) + a % M : Nat) : Int) = a := by rw [this]
  push_cast at h2
  push_cast
  omega

/-- A row of the table as one number. -/
def pmOf (r : Nat × Nat) : Nat := r.1 * 18446744073709551616 - r.2

/-- Ten to the power i - 348, times a power of two, as a fraction: it has 128 bits before the point. -/
def Tn (i : Nat) : Nat := bif Nat.ble 348 i then 5 ^ (i - 348) * 2 ^ 127 else 2 ^ (128 + (5 ^ (348 - i)).log2)
def Td (i : Nat) : Nat := bif Nat.ble 348 i then 2 ^ (5 ^ (i - 348)).log2 else 5 ^ (348 - i)
def lpOf (i : Nat) : Int := bif Nat.ble 348 i then ((i - 348 : Nat) : Int) + (5 ^ (i - 348)).log2 else -(((348 - i : Nat) : Int) + (5 ^ (348 - i)).log2 + 1)

def M126 : Nat := 85070591730234615865843651857942052864
def B57 : Nat := 144115188075855872
def farOk (r : Nat × Nat) : Bool := seek B57 B57 400 1 (pmOf r % M126) 0 M126
theorem far_far {r : Nat × Nat} (h : farOk r = true) (z : Nat) (h0 : 0 < z) (h1 : z ≤ B57) : B57 < z * pmOf r % M126 ∧ z * pmOf r % M126 + B57 ≤ M126 :=
  seek_far (a := pmOf r) (M := M126) (N := B57) (B := B57) (by decide) 400 1 (pmOf r % M126) 0 M126 (seek_start _ _) h z h0 h1

def midOk (i : Nat) (r : Nat × Nat) : Bool := bif Nat.ble 348 i then (Nat.beq (pmOf r * Td i) (Tn i) && Nat.beq (pmOf r % 36893488147419103232) 0) else (Nat.ble (Td i) 9223372036854775808 && Nat.beq (Tn i % 340282366920938463463374607431768211456) 0)

def rowOk (i : Nat) (r : Nat × Nat) : Bool :=
  Nat.ble (pmOf r * Td i) (Tn i + Td i - 1) && Nat.ble (Tn i) (pmOf r * Td i) && Nat.ble r.1 18446744073709551615 && Nat.ble r.2 18446744073709551615 && Nat.ble 9223372036854775808 r.1 &&
  decide (lpOf i = ((i : Int) - 348) * 108853 / 32768) &&
  (bif Nat.ble 321 i && Nat.ble i 375 then midOk i r else farOk r)

def rowsOk : Nat → List (Nat × Nat) → Bool
  | _, [] => true
  | i, r :: l => rowOk i r && rowsOk (i + 1) l

set_option maxRecDepth 100000 in
theorem rows_ok : rowsOk 0 Pinned.pow10Rows = true := by decide +kernel
theorem rows_len : Pinned.pow10Rows.length = 696 := by decide +kernel

theorem rowsOk_at : ∀ (l : List (Nat × Nat)) (i j : Nat) (r : Nat × Nat), rowsOk i l = true → l[j]? = some r → rowOk (i + j) r = true
  | [], _, _, _, _, h => by simp at h
  | x :: l, i, 0, r, h, e => by
    simp at e
    subst e
    simp only [rowsOk, Bool.and_eq_true] at h
    exact h.1
  | x :: l, i, j + 1, r, h, e => by
    simp only [rowsOk, Bool.and_eq_true] at h
    have := rowsOk_at l (i + 1) j r h.2 (by simpa using e)
    rwa [show i + (j + 1) = i + 1 + j by omega]

theorem row_ok {i : Nat} {r : Nat × Nat} (h : Pinned.pow10Rows[i]? = some r) : rowOk i r = true := by
  have := rowsOk_at _ 0 i r rows_ok h
  rwa [Nat.zero_add] at this
end Go.Proofs.YtalaajniammggaaGreatDoor

/- Unrounded scaling, as the library does it: what comes out is the number cut to quarters, odd if something was cut off. -/
namespace Go.Proofs.YtalaajniammggaaGreatDoor

/-- A fraction's whole part, made odd if something is left. -/
def unr (N D : Nat) : Nat := if N % D = 0 then N / D else N / D / 2 * 2 + 1

/-- What the library reckons. -/
def uc (x hi lo s : Nat) : Nat :=
  if x * hi / 18446744073709551616 % 2 ^ s ≠ 0 then x * hi / 18446744073709551616 / 2 ^ s / 2 * 2 + 1 else
  if x * hi % 18446744073709551616 < x * lo / 18446744073709551616 then (x * hi / 18446744073709551616 - 1) / 2 ^ s / 2 * 2 + 1 else
  if 1 < x * hi % 18446744073709551616 - x * lo / 18446744073709551616 then x * hi / 18446744073709551616 / 2 ^ s / 2 * 2 + 1 else x * hi / 18446744073709551616 / 2 ^ s

theorem dm_unique {y M q r : Nat} (h : y = M * q + r) (hr : r < M) : y / M = q ∧ y % M = r := by
  subst h
  constructor
  · rw [Nat.mul_add_div (by omega), Nat.div_eq_of_lt hr, Nat.add_zero]
  · rw [Nat.mul_add_mod, Nat.mod_eq_of_lt hr]

theorem uc_near (x hi lo s y M : Nat) (hx : x < 18446744073709551616) (hlo : lo < 18446744073709551616) (hH : 1 ≤ x * hi / 18446744073709551616) (hy : y + x * lo = x * hi * 18446744073709551616) (hM : M = 340282366920938463463374607431768211456 * 2 ^ s) (hn : y % M + 18446744073709551616 ≤ M) :
    uc x hi lo s = if y % M ≤ 18446744073709551616 then y / M else y / M / 2 * 2 + 1 := by
  unfold uc
  obtain ⟨P, hP⟩ : ∃ P, P = 2 ^ s := ⟨_, rfl⟩
  have hP1 : 1 ≤ P := by rw [hP]; exact Nat.one_le_two_pow
  rw [← hP] at hM ⊢
  clear hP
  have h1 := Nat.div_add_mod (x * hi) 18446744073709551616
  have h1' := Nat.mod_lt (x * hi) (show 0 < 18446744073709551616 by decide)
  have h2 := Nat.div_add_mod (x * lo) 18446744073709551616
  have h2' := Nat.mod_lt (x * lo) (show 0 < 18446744073709551616 by decide)
  have hm2 : x * lo / 18446744073709551616 ≤ 18446744073709551614 := by
    have : x * lo ≤ 18446744073709551615 * 18446744073709551615 := Nat.mul_le_mul (by omega) (by omega)
    omega
  generalize x * hi / 18446744073709551616 = H at *
  generalize x * hi % 18446744073709551616 = mid at *
  generalize x * lo / 18446744073709551616 = mid2 at *
  generalize x * lo % 18446744073709551616 = lo2 at *
  have h3 := Nat.div_add_mod H P
  have h3' := Nat.mod_lt H (show 0 < P by omega)
  generalize H / P = h at *
  generalize H % P = r at *
  have hMh : M * h = 340282366920938463463374607431768211456 * (P * h) := by rw [hM, Nat.mul_assoc]
  have hMP : M = 340282366920938463463374607431768211456 * P := hM
  by_cases hr : r = 0
  · subst hr
    rw [if_neg (by omega)]
    have hh : 1 ≤ h := by
      rcases Nat.eq_zero_or_pos h with h0 | h0
      · subst h0; simp at h3; omega
      · exact h0
    by_cases hm : mid < mid2
    · rw [if_pos hm]
      have e1 : (H - 1) / P = h - 1 := by
        have e : H - 1 = P * (h - 1) + (P - 1) := by
          have : P * h = P * (h - 1) + P := by rw [← Nat.mul_succ]; congr 1; omega
          omega
        exact (dm_unique e (by omega)).1
      have hMh1 : M * h = M * (h - 1) + M := by rw [← Nat.mul_succ]; congr 1; omega
      have e2 := dm_unique (y := y) (M := M) (q := h - 1) (r := M + mid * 18446744073709551616 - mid2 * 18446744073709551616 - lo2) (by omega) (by omega)
      rw [e1, e2.1, e2.2, if_neg (by omega)]
    · rw [if_neg hm]
      have e0 : ∀ q, y = M * h + q → q < M → y / M = h ∧ y % M = q := fun q a b => dm_unique a b
      by_cases h4 : 1 < mid - mid2
      · have e2 := e0 ((mid - mid2) * 18446744073709551616 - lo2) (by omega) (by omega)
        rw [if_pos h4, e2.1, e2.2, if_neg (by omega)]
      · rw [if_neg h4]
        by_cases h5 : mid - mid2 = 1
        · have e2 := e0 (18446744073709551616 - lo2) (by omega) (by omega)
          rw [e2.1, e2.2, if_pos (by omega)]
        · by_cases h6 : lo2 = 0
          · have e2 := e0 0 (by omega) (by omega)
            rw [e2.1, e2.2, if_pos (by omega)]
          · exfalso
            have hMh1 : M * h = M * (h - 1) + M := by rw [← Nat.mul_succ]; congr 1; omega
            have e2 := dm_unique (y := y) (M := M) (q := h - 1) (r := M - lo2) (by omega) (by omega)
            omega
  · rw [if_pos hr]
    have e2 := dm_unique (y := y) (M := M) (q := h) (r := 340282366920938463463374607431768211456 * r + mid * 18446744073709551616 - mid2 * 18446744073709551616 - lo2) (by omega) (by omega)
    rw [e2.1, e2.2, if_neg (by omega)]

theorem unr_A {x pm y M A T : Nat} (hy : y = x * pm) (h1 : A ≤ pm * T) (h2 : pm * T < A + T) (hx : x < 18446744073709551616) (hx0 : 0 < x) (hT : 0 < T) (h : 18446744073709551616 < y % M) (hM : 0 < M) : y / M / 2 * 2 + 1 = unr (x * A) (T * M) := by
  have hd := Nat.div_add_mod y M
  have hl := Nat.mod_lt y hM
  obtain ⟨q, hq⟩ : ∃ q, y / M = q := ⟨_, rfl⟩
  obtain ⟨r, hr⟩ : ∃ r, y % M = r := ⟨_, rfl⟩
  rw [hq, hr] at hd
  rw [hr] at h hl
  have a1 : x * A ≤ y * T := by rw [hy, Nat.mul_assoc]; exact Nat.mul_le_mul_left x h1
  have a2 : y * T < x * A + x * T := by rw [hy, Nat.mul_assoc, ← Nat.mul_add]; exact Nat.mul_lt_mul_of_pos_left h2 hx0
  have a3 : x * T ≤ 18446744073709551616 * T := Nat.mul_le_mul_right T (by omega)
  have a4 : y * T = T * M * q + r * T := by rw [← hd]; grind
  have a5 : 18446744073709551616 * T < r * T := Nat.mul_lt_mul_of_pos_right h hT
  have a6 : r * T < T * M := by rw [Nat.mul_comm T M]; exact Nat.mul_lt_mul_of_pos_right hl hT
  have e := dm_unique (y := x * A) (M := T * M) (q := q) (r := x * A - T * M * q) (by omega) (by omega)
  unfold unr
  rw [e.1, e.2, if_neg (by omega), hq]

theorem unr_B {x pm y M A T : Nat} (hy : y = x * pm) (h1 : A ≤ pm * T) (h2 : pm * T < A + T) (hx : x < 18446744073709551616) (hx0 : 0 < x) (hT : 0 < T) (hM : 18446744073709551616 ≤ M) (hD : x * A % (T * M) = 0) : y / M = unr (x * A) (T * M) ∧ y % M < 18446744073709551616 := by
  have hd := Nat.div_add_mod (x * A) (T * M)
  obtain ⟨k, hk⟩ : ∃ k, x * A / (T * M) = k := ⟨_, rfl⟩
  rw [hD, hk] at hd
  have a1 : x * A ≤ y * T := by rw [hy, Nat.mul_assoc]; exact Nat.mul_le_mul_left x h1
  have a2 : y * T < x * A + x * T := by rw [hy, Nat.mul_assoc, ← Nat.mul_add]; exact Nat.mul_lt_mul_of_pos_left h2 hx0
  have a3 : x * T ≤ 18446744073709551616 * T := Nat.mul_le_mul_right T (by omega)
  have b1 : M * k ≤ y := by
    have : M * k * T ≤ y * T := by
      have : T * M * k = M * k * T := by grind
      omega
    exact Nat.le_of_mul_le_mul_right this hT
  have b2 : y < M * k + 18446744073709551616 := by
    have : y * T < (M * k + 18446744073709551616) * T := by
      have : T * M * k = M * k * T := by grind
      rw [Nat.add_mul]
      omega
    exact Nat.lt_of_mul_lt_mul_right this
  have e := dm_unique (y := y) (M := M) (q := k) (r := y - M * k) (by omega) (by omega)
  unfold unr
  rw [if_pos hD, hk, e.1, e.2]
  exact ⟨rfl, by omega⟩
end Go.Proofs.YtalaajniammggaaGreatDoor

/- Unrounded scaling by the table's rows is right. -/
namespace Go.Proofs.YtalaajniammggaaGreatDoor

structure RowFacts (i : Nat) (r : Nat × Nat) : Prop where
  le : Tn i ≤ pmOf r * Td i
  lt : pmOf r * Td i < Tn i + Td i
  hi : r.1 < 18446744073709551616
  lo : r.2 < 18446744073709551616
  top : 9223372036854775808 ≤ r.1
  lp : lpOf i = ((i : Int) - 348) * 108853 / 32768
  exact : 348 ≤ i → i ≤ 375 → pmOf r * Td i = Tn i ∧ pmOf r % 36893488147419103232 = 0
  small : 321 ≤ i → i < 348 → Td i ≤ 9223372036854775808 ∧ Tn i % 340282366920938463463374607431768211456 = 0
  far : i < 321 ∨ 375 < i → ∀ z, 0 < z → z ≤ B57 → B57 < z * pmOf r % M126 ∧ z * pmOf r % M126 + B57 ≤ M126

theorem Td_pos (i : Nat) : 0 < Td i := by
  unfold Td
  cases Nat.ble 348 i
  · exact Nat.pow_pos (by decide)
  · exact Nat.pow_pos (by decide)

theorem pick_no {c a b : Bool} (h : (bif c then a else b) = true) (hc : c = false) : b = true := by subst hc; exact h
theorem pick_yes {c a b : Bool} (h : (bif c then a else b) = true) (hc : c = true) : a = true := by subst hc; exact h
theorem and_l {a b : Bool} (h : (a && b) = true) : a = true := by cases a; cases h; rfl
theorem and_r {a b : Bool} (h : (a && b) = true) : b = true := by cases a; cases h; exact h
theorem ble_no {a b : Nat} (h : b < a) : Nat.ble a b = false := by
  cases hc : Nat.ble a b with
  | true => have := Nat.le_of_ble_eq_true hc; omega
  | false => rfl

theorem row_facts {i : Nat} {r : Nat × Nat} (h : Pinned.pow10Rows[i]? = some r) : RowFacts i r := by
  have h := row_ok h
  unfold rowOk at h
  have h7 := and_r h
  have k6 := and_l h
  have h6 := and_r k6
  have k5 := and_l k6
  have h5 := and_r k5
  have k4 := and_l k5
  have h4 := and_r k4
  have k3 := and_l k4
  have h3 := and_r k3
  have k2 := and_l k3
  have h2 := and_r k2
  have h1 := and_l k2
  clear h k6 k5 k4 k3 k2
  have hT := Td_pos i
  have g1 := Nat.le_of_ble_eq_true h1
  refine ⟨Nat.le_of_ble_eq_true h2, by omega, by have := Nat.le_of_ble_eq_true h3; omega, by have := Nat.le_of_ble_eq_true h4; omega, Nat.le_of_ble_eq_true h5, of_decide_eq_true h6, ?_, ?_, ?_⟩
  · intro a b
    have h8 := pick_yes h7 (by rw [Nat.ble_eq_true_of_le (show 321 ≤ i by omega), Nat.ble_eq_true_of_le b]; rfl)
    unfold midOk at h8
    have h9 := pick_yes h8 (Nat.ble_eq_true_of_le a)
    exact ⟨Nat.eq_of_beq_eq_true (and_l h9), Nat.eq_of_beq_eq_true (and_r h9)⟩
  · intro a b
    have h8 := pick_yes h7 (by rw [Nat.ble_eq_true_of_le a, Nat.ble_eq_true_of_le (show i ≤ 375 by omega)]; rfl)
    unfold midOk at h8
    have h9 := pick_no h8 (ble_no b)
    exact ⟨Nat.le_of_ble_eq_true (and_l h9), Nat.eq_of_beq_eq_true (and_r h9)⟩
  · intro a
    have h8 := pick_no h7 (by
      rcases a with a | a
      · rw [ble_no a]; rfl
      · rw [ble_no a, Bool.and_false])
    exact far_far h8

theorem uscale_right {i : Nat} {r : Nat × Nat} (hr : Pinned.pow10Rows[i]? = some r) {x s : Nat} (hx : x < 18446744073709551616) (hx1 : 2 ≤ x) (hg : 321 ≤ i ∧ i ≤ 375 ∨ (5 ≤ s ∧ x % 128 = 0)) :
    uc x r.1 r.2 s = unr (x * Tn i) (Td i * (340282366920938463463374607431768211456 * 2 ^ s)) := by
  have F := row_facts hr
  have hT := Td_pos i
  obtain ⟨M, hM⟩ : ∃ M, M = 340282366920938463463374607431768211456 * 2 ^ s := ⟨_, rfl⟩
  obtain ⟨P, hP⟩ : ∃ P, P = 2 ^ s := ⟨_, rfl⟩
  have hP1 : 1 ≤ P := by rw [hP]; exact Nat.one_le_two_pow
  rw [← hM]
  have hMP : M = 340282366920938463463374607431768211456 * P := by rw [hP]; exact hM
  obtain ⟨y, hy⟩ : ∃ y, y = x * pmOf r := ⟨_, rfl⟩
  have hlo : r.2 ≤ r.1 * 18446744073709551616 := by have := F.top; have := F.lo; omega
  have hye : y + x * r.2 = x * r.1 * 18446744073709551616 := by
    rw [hy, pmOf, ← Nat.mul_add, Nat.mul_assoc]
    congr 1
    omega
  have hH : 1 ≤ x * r.1 / 18446744073709551616 := by
    have : 2 * 9223372036854775808 ≤ x * r.1 := Nat.mul_le_mul hx1 F.top
    omega
  have main : y % M + 18446744073709551616 ≤ M → (18446744073709551616 < y % M ∨ x * Tn i % (Td i * M) = 0) → uc x r.1 r.2 s = unr (x * Tn i) (Td i * M) := by
    intro hn hc
    rw [uc_near x r.1 r.2 s y M hx F.lo hH hye hM hn]
    rcases hc with hc | hc
    · rw [if_neg (by omega)]
      exact unr_A hy F.le F.lt hx (by omega) hT hc (by omega)
    · have := unr_B hy F.le F.lt hx (by omega) hT (by omega) hc
      rw [if_pos (by omega)]
      exact this.1
  by_cases hfar : i < 321 ∨ 375 < i
  · rcases hg with hg | ⟨hs, hg⟩
    · omega
    have hz := F.far hfar (x / 128) (by omega) (by unfold B57; omega)
    unfold B57 M126 at hz
    have ex : x = 128 * (x / 128) := by omega
    have e133 : y % 10889035741470030830827987437816582766592 = 128 * (x / 128 * pmOf r % 85070591730234615865843651857942052864) := by
      rw [hy]
      conv => lhs; rw [ex, Nat.mul_assoc]
      exact Nat.mul_mod_mul_left 128 _ 85070591730234615865843651857942052864
    have hdv : M = 10889035741470030830827987437816582766592 * 2 ^ (s - 5) := by
      rw [hM]
      have : 2 ^ s = 32 * 2 ^ (s - 5) := by
        rw [show (32 : Nat) = 2 ^ 5 from rfl, ← Nat.pow_add]
        congr 1
        omega
      rw [this, ← Nat.mul_assoc]
    have hmm : y % M % 10889035741470030830827987437816582766592 = y % 10889035741470030830827987437816582766592 := Nat.mod_mod_of_dvd _ ⟨2 ^ (s - 5), hdv⟩
    have hlt := Nat.mod_lt y (show 0 < M by omega)
    obtain ⟨Z, hZ⟩ : ∃ Z, Z = 2 ^ (s - 5) := ⟨_, rfl⟩
    rw [← hZ] at hdv
    exact main (by omega) (.inl (by omega))
  · by_cases h348 : 348 ≤ i
    · obtain ⟨he, h65⟩ := F.exact h348 (by omega)
      have hy65 : y % 36893488147419103232 = 0 := by rw [hy, Nat.mul_mod, h65, Nat.mul_zero, Nat.zero_mod]
      have hmm : y % M % 36893488147419103232 = y % 36893488147419103232 := Nat.mod_mod_of_dvd _ ⟨9223372036854775808 * P, by omega⟩
      have hlt := Nat.mod_lt y (show 0 < M by omega)
      refine main (by omega) ?_
      by_cases h0 : 18446744073709551616 < y % M
      · exact .inl h0
      · right
        have hz : y % M = 0 := by omega
        have e : x * Tn i = Td i * y := by rw [← he, hy]; grind
        rw [e, Nat.mul_mod_mul_left, hz, Nat.mul_zero]
    · obtain ⟨hs1, hs2⟩ := F.small (by omega) (by omega)
      by_cases hN : x * Tn i % (Td i * M) = 0
      · have := unr_B hy F.le F.lt hx (by omega) hT (by omega) hN
        exact main (by omega) (.inr hN)
      · -- the rest has many bits
        have hd := Nat.div_add_mod (x * Tn i) (Td i * M)
        have hl := Nat.mod_lt (x * Tn i) (show 0 < Td i * M from Nat.mul_pos hT (by omega))
        have hN0 : x * Tn i % 340282366920938463463374607431768211456 = 0 := by rw [Nat.mul_mod, hs2, Nat.mul_zero, Nat.zero_mod]
        have hDM : Td i * M = 340282366920938463463374607431768211456 * (Td i * P) := by rw [hMP]; grind
        have hmm : x * Tn i % (Td i * M) % 340282366920938463463374607431768211456 = x * Tn i % 340282366920938463463374607431768211456 := Nat.mod_mod_of_dvd _ ⟨Td i * P, hDM⟩
        obtain ⟨k, hk⟩ : ∃ k, x * Tn i / (Td i * M) = k := ⟨_, rfl⟩
        obtain ⟨R, hR⟩ : ∃ R, x * Tn i % (Td i * M) = R := ⟨_, rfl⟩
        rw [hk, hR] at hd
        rw [hR] at hl hN hmm
        have a1 : x * Tn i ≤ y * Td i := by rw [hy, Nat.mul_assoc]; exact Nat.mul_le_mul_left x F.le
        have a2 : y * Td i < x * Tn i + x * Td i := by rw [hy, Nat.mul_assoc, ← Nat.mul_add]; exact Nat.mul_lt_mul_of_pos_left F.lt (by omega)
        have a3 : x * Td i ≤ 18446744073709551616 * Td i := Nat.mul_le_mul_right (Td i) (by omega)
        have hRb : 340282366920938463463374607431768211456 ≤ R ∧ R + 340282366920938463463374607431768211456 ≤ Td i * M := by omega
        have eT : Td i * M * k = M * k * Td i := by grind
        have b1 : M * k + 18446744073709551616 < y := by
          have : (M * k + 18446744073709551616) * Td i < y * Td i := by rw [Nat.add_mul]; omega
          exact Nat.lt_of_mul_lt_mul_right this
        have b2 : y + 18446744073709551616 ≤ M * k + M := by
          have : (y + 18446744073709551616) * Td i ≤ (M * k + M) * Td i := by
            rw [Nat.add_mul, Nat.add_mul, Nat.mul_comm M (Td i)]; omega
          exact Nat.le_of_mul_le_mul_right this hT
        have e := dm_unique (y := y) (M := M) (q := k) (r := y - M * k) (by omega) (by omega)
        exact main (by omega) (.inl (by omega))
end Go.Proofs.YtalaajniammggaaGreatDoor

/- The shortest digits: where the numbers lie that read back as a float, on the scale that the library takes. -/
namespace Go.Proofs.YtalaajniammggaaGreatDoor

/-- On the scale of k: the row of the table. -/
def ixN (k : Int) : Int := 348 - k * 78913 / 262144
def ixS (k : Int) : Int := 348 - (k * 631305 - 261663) / 2097152
def ix (skew : Bool) (k : Int) : Nat := (bif skew then ixS k else ixN k).toNat
def up (skew : Bool) (k : Int) : Nat := (k + lpOf (ix skew k) + 1).toNat

def kOk (skew : Bool) (k : Int) : Bool :=
  decide (0 ≤ (bif skew then ixS k else ixN k)) && decide (ix skew k ≤ 672) && decide (56 ≤ ix skew k) && decide (1 ≤ k + lpOf (ix skew k) + 1) && Nat.ble (up skew k) 4 &&
  (bif skew then Nat.ble (4 * (Td (ix skew k) * 340282366920938463463374607431768211456)) (3 * (Tn (ix skew k) * 2 ^ up skew k)) && Nat.ble (3 * (Tn (ix skew k) * 2 ^ up skew k) + 1) (40 * (Td (ix skew k) * 340282366920938463463374607431768211456))
   else Nat.ble (Td (ix skew k) * 340282366920938463463374607431768211456) (Tn (ix skew k) * 2 ^ up skew k) && Nat.ble (Tn (ix skew k) * 2 ^ up skew k + 1) (10 * (Td (ix skew k) * 340282366920938463463374607431768211456)))

def ksOk : Nat → Bool
  | 0 => true
  | j + 1 => kOk false ((j : Int) - 1074) && kOk true ((j : Int) - 1074) && ksOk j

set_option maxRecDepth 100000 in
theorem ks_ok : ksOk 2046 = true := by decide +kernel

theorem ksOk_at : ∀ (n j : Nat), ksOk n = true → j < n → kOk false ((j : Int) - 1074) = true ∧ kOk true ((j : Int) - 1074) = true
  | 0, j, _, h => absurd h (Nat.not_lt_zero j)
  | n + 1, j, hk, h => by
    unfold ksOk at hk
    by_cases e : j = n
    · subst e
      exact ⟨and_l (and_l hk), and_r (and_l hk)⟩
    · exact ksOk_at n j (and_r hk) (by omega)

structure KFacts (skew : Bool) (k : Int) : Prop where
  pos : 0 ≤ (bif skew then ixS k else ixN k)
  hi : ix skew k ≤ 672
  lo : 56 ≤ ix skew k
  one : 1 ≤ k + lpOf (ix skew k) + 1
  four : up skew k ≤ 4
  fit : if skew = true then 4 * (Td (ix skew k) * 340282366920938463463374607431768211456) ≤ 3 * (Tn (ix skew k) * 2 ^ up skew k) ∧ 3 * (Tn (ix skew k) * 2 ^ up skew k) < 40 * (Td (ix skew k) * 340282366920938463463374607431768211456)
    else Td (ix skew k) * 340282366920938463463374607431768211456 ≤ Tn (ix skew k) * 2 ^ up skew k ∧ Tn (ix skew k) * 2 ^ up skew k < 10 * (Td (ix skew k) * 340282366920938463463374607431768211456)

theorem k_facts (skew : Bool) (k : Int) (h1 : -1074 ≤ k) (h2 : k ≤ 971) : KFacts skew k := by
  have h := ksOk_at 2046 (k + 1074).toNat ks_ok (by omega)
  rw [show (((k + 1074).toNat : Nat) : Int) - 1074 = k by omega] at h
  have h : kOk skew k = true := by
    cases skew
    · exact h.1
    · exact h.2
  unfold kOk at h
  have h6 := and_r h
  have k5 := and_l h
  have h5 := and_r k5
  have k4 := and_l k5
  have h4 := and_r k4
  have k3 := and_l k4
  have h3 := and_r k3
  have k2 := and_l k3
  have h2 := and_r k2
  have h1 := and_l k2
  refine ⟨of_decide_eq_true h1, of_decide_eq_true h2, of_decide_eq_true h3, of_decide_eq_true h4, Nat.le_of_ble_eq_true h5, ?_⟩
  cases skew with
  | true =>
    rw [if_pos rfl]
    have h7 := pick_yes h6 rfl
    exact ⟨Nat.le_of_ble_eq_true (and_l h7), Nat.le_of_ble_eq_true (and_r h7)⟩
  | false =>
    rw [if_neg (by simp)]
    have h7 := pick_no h6 rfl
    exact ⟨Nat.le_of_ble_eq_true (and_l h7), Nat.le_of_ble_eq_true (and_r h7)⟩

/-- What the library makes of the unrounded ends. -/
def lowU (u odd : Nat) : Nat := (u + odd + 3) / 4
def topU (u odd : Nat) : Nat := (u - odd) / 4
def rndU (u : Nat) : Nat := (u + 1 + u / 4 % 2) / 4

theorem unr_pos (N D : Nat) (h : 0 < N) : 1 ≤ unr N D := by
  unfold unr
  by_cases hr : N % D = 0
  · rw [if_pos hr]
    have := Nat.div_add_mod N D
    rcases Nat.eq_zero_or_pos (N / D) with h0 | h0
    · rw [h0, hr] at this; omega
    · exact h0
  · rw [if_neg hr]; omega

theorem cmp_le {N D : Nat} (hD : 0 < D) (n : Nat) : N ≤ n * D ↔ (N / D + (if N % D = 0 then 0 else 1)) ≤ n := by
  have h := Nat.div_add_mod N D
  have hl := Nat.mod_lt N hD
  by_cases hr : N % D = 0
  · rw [if_pos hr, Nat.add_zero]
    rw [hr, Nat.add_zero] at h
    constructor
    · intro a
      have : D * (N / D) ≤ D * n := by rw [h, Nat.mul_comm D n]; exact a
      exact Nat.le_of_mul_le_mul_left this hD
    · intro a
      have := Nat.mul_le_mul_left D a
      rw [h, Nat.mul_comm D n] at this
      exact this
  · rw [if_neg hr]
    constructor
    · intro a
      rcases Nat.lt_or_ge n (N / D + 1) with b | b
      · exfalso
        have := Nat.mul_le_mul_left D (show n ≤ N / D by omega)
        rw [Nat.mul_comm D n] at this
        omega
      · exact b
    · intro a
      have := Nat.mul_le_mul_left D a
      rw [Nat.mul_add, Nat.mul_comm D n] at this
      omega
theorem cmp_ge {N D : Nat} (hD : 0 < D) (n : Nat) : n * D ≤ N ↔ n ≤ N / D := (Nat.le_div_iff_mul_le hD).symm

theorem low_even {N D : Nat} (hD : 0 < D) (n : Nat) : N ≤ 4 * n * D ↔ lowU (unr N D) 0 ≤ n := by
  rw [cmp_le hD]
  unfold lowU unr
  by_cases hr : N % D = 0
  · rw [if_pos hr, if_pos hr]; generalize N / D = q at *; omega
  · rw [if_neg hr, if_neg hr]; generalize N / D = q at *; omega
theorem low_odd {N D : Nat} (hD : 0 < D) (n : Nat) : N < 4 * n * D ↔ lowU (unr N D) 1 ≤ n := by
  rw [← Nat.not_le, cmp_ge hD]
  unfold lowU unr
  by_cases hr : N % D = 0
  · rw [if_pos hr]; generalize N / D = q at *; omega
  · rw [if_neg hr]; generalize N / D = q at *; omega
theorem top_even {N D : Nat} (hD : 0 < D) (n : Nat) : 4 * n * D ≤ N ↔ n ≤ topU (unr N D) 0 := by
  rw [cmp_ge hD]
  unfold topU unr
  by_cases hr : N % D = 0
  · rw [if_pos hr]; generalize N / D = q at *; omega
  · rw [if_neg hr]; generalize N / D = q at *; omega
theorem top_odd {N D : Nat} (hD : 0 < D) (hN : 0 < N) (n : Nat) : 4 * n * D < N ↔ n ≤ topU (unr N D) 1 := by
  have h1 := unr_pos N D hN
  rw [← Nat.not_le, cmp_le hD]
  unfold topU
  unfold unr at h1 ⊢
  by_cases hr : N % D = 0
  · rw [if_pos hr] at h1 ⊢
    rw [if_pos hr]
    generalize N / D = q at *
    omega
  · rw [if_neg hr, if_neg hr]
    generalize N / D = q at *
    omega
/-- The nearest whole number of quarters, the even one of two. -/
theorem rnd_near {N D : Nat} (hD : 0 < D) : 2 * (4 * rndU (unr N D) * D) ≤ 2 * N + 4 * D ∧ 2 * N ≤ 2 * (4 * rndU (unr N D) * D) + 4 * D := by
  have h := Nat.div_add_mod N D
  have hl := Nat.mod_lt N hD
  obtain ⟨q, hq⟩ : ∃ q, N / D = q := ⟨_, rfl⟩
  obtain ⟨r, hr⟩ : ∃ r, N % D = r := ⟨_, rfl⟩
  rw [hq, hr] at h
  rw [hr] at hl
  unfold rndU unr
  rw [hq, hr]
  have key : ∀ n : Nat, (4 * n ≤ q + 2 ∧ q + (if r = 0 then 0 else 1) ≤ 4 * n + 2) → 2 * (4 * n * D) ≤ 2 * N + 4 * D ∧ 2 * N ≤ 2 * (4 * n * D) + 4 * D := by
    rintro n ⟨a, b⟩
    have f1 := Nat.mul_le_mul_right D a
    have f2 := Nat.mul_le_mul_right D b
    rw [Nat.add_mul] at f1
    rw [Nat.add_mul, Nat.add_mul] at f2
    have e : D * q = q * D := Nat.mul_comm _ _
    by_cases h0 : r = 0
    · rw [if_pos h0] at f2; omega
    · rw [if_neg h0] at f2; omega
  by_cases h0 : r = 0
  · rw [if_pos h0]
    exact key _ (by rw [if_pos h0]; omega)
  · rw [if_neg h0]
    exact key _ (by rw [if_neg h0]; omega)
end Go.Proofs.YtalaajniammggaaGreatDoor
