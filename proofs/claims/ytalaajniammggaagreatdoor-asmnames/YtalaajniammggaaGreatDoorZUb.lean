/- The shortest digits: what the library tells reads back. -/
import Derived.Test.YtalaajniammggaaGreatDoorZUa
namespace Go.Proofs.YtalaajniammggaaGreatDoor

/-- Four times a float's lower end, in units of its last place. -/
def cl (mant : Nat) (skew : Bool) : Nat := 4 * mant - (bif skew then 1 else 2)

/-- n on the scale (g / D) reads back as the float. -/
def InI (mant : Nat) (skew : Bool) (g D n : Nat) : Prop :=
  if mant % 2 = 0 then cl mant skew * g ≤ 4 * n * D ∧ 4 * n * D ≤ (4 * mant + 2) * g else cl mant skew * g < 4 * n * D ∧ 4 * n * D < (4 * mant + 2) * g

structure Fits (mant : Nat) (skew : Bool) (g D : Nat) : Prop where
  one : 1 ≤ mant
  top : mant < 9007199254740992
  pos : 0 < D
  plain : skew = false → D ≤ g ∧ g < 10 * D
  skewed : skew = true → 4 * D ≤ 3 * g ∧ 3 * g < 40 * D ∧ mant = 4503599627370496

def lowD (mant : Nat) (skew : Bool) (g D : Nat) : Nat := lowU (unr (cl mant skew * g) D) (mant % 2)
def topD (mant : Nat) (g D : Nat) : Nat := topU (unr ((4 * mant + 2) * g) D) (mant % 2)
def midD (mant : Nat) (g D : Nat) : Nat := rndU (unr (4 * mant * g) D)

theorem Fits.gpos {mant : Nat} {skew : Bool} {g D : Nat} (h : Fits mant skew g D) : 0 < g := by
  have := h.pos
  cases skew with
  | false => have := (h.plain rfl).1; omega
  | true => have := (h.skewed rfl).1; omega

theorem in_iff {mant : Nat} {skew : Bool} {g D : Nat} (h : Fits mant skew g D) (n : Nat) : InI mant skew g D n ↔ lowD mant skew g D ≤ n ∧ n ≤ topD mant g D := by
  unfold InI lowD topD
  by_cases hm : mant % 2 = 0
  · rw [if_pos hm, hm, low_even h.pos, top_even h.pos]
  · have h1 : mant % 2 = 1 := by omega
    rw [if_neg hm, h1, low_odd h.pos, top_odd h.pos (Nat.mul_pos (by omega) h.gpos)]

theorem cl_pos {mant : Nat} (skew : Bool) (h : 1 ≤ mant) : 0 < cl mant skew := by
  unfold cl
  cases skew
  · show 0 < 4 * mant - 2; omega
  · show 0 < 4 * mant - 1; omega

theorem in_pos {mant : Nat} {skew : Bool} {g D n : Nat} (h : Fits mant skew g D) (hn : InI mant skew g D n) : 1 ≤ n := by
  rcases Nat.eq_zero_or_pos n with h0 | h0
  · subst h0
    have := Nat.mul_pos (cl_pos skew h.one) h.gpos
    unfold InI at hn
    simp only [Nat.mul_zero, Nat.zero_mul] at hn
    split at hn <;> omega
  · exact h0

theorem in_lt {mant : Nat} {skew : Bool} {g D n : Nat} (h : Fits mant skew g D) (hn : InI mant skew g D n) : n < 100000000000000000 := by
  have hu : 4 * n * D ≤ (4 * mant + 2) * g := by
    unfold InI at hn
    split at hn
    · exact hn.2
    · exact Nat.le_of_lt hn.2
  have ht := h.top
  rcases Nat.lt_or_ge n 100000000000000000 with h0 | h0
  · exact h0
  · exfalso
    have h1 : 400000000000000000 * D ≤ 4 * n * D := Nat.mul_le_mul_right D (by omega)
    have h2 : (4 * mant + 2) * g ≤ 36028797018963968 * g := Nat.mul_le_mul_right g (by omega)
    have hp := h.pos
    cases skew with
    | false => have := h.plain rfl; omega
    | true =>
      have := h.skewed rfl
      have h3 : (4 * mant + 2) * g ≤ 18014398509481986 * g := Nat.mul_le_mul_right g (by omega)
      omega

theorem low_le_top {mant : Nat} {skew : Bool} {g D : Nat} (h : Fits mant skew g D) : lowD mant skew g D ≤ topD mant g D := by
  have hp := h.pos
  have hg := h.gpos
  -- a number in it
  have ex : ∃ n, InI mant skew g D n := by
    have hd := Nat.div_add_mod ((4 * mant + 2) * g) (4 * D)
    have hl := Nat.mod_lt ((4 * mant + 2) * g) (show 0 < 4 * D by omega)
    obtain ⟨n, hn⟩ : ∃ n, (4 * mant + 2) * g / (4 * D) = n := ⟨_, rfl⟩
    obtain ⟨r, hr⟩ : ∃ r, (4 * mant + 2) * g % (4 * D) = r := ⟨_, rfl⟩
    rw [hn, hr] at hd
    rw [hr] at hl
    have e4 : 4 * n * D = 4 * D * n := by grind
    cases skew with
    | false =>
      have hw := (h.plain rfl).1
      have ec : (4 * mant + 2) * g = cl mant false * g + 4 * g := by
        rw [← Nat.add_mul]; congr 1; unfold cl; show 4 * mant + 2 = 4 * mant - 2 + 4; have := h.one; omega
      unfold InI
      by_cases hm : mant % 2 = 0
      · exact ⟨n, by rw [if_pos hm]; omega⟩
      · by_cases hr0 : r = 0
        · have hgD : g ≠ D := by
            rintro rfl
            have : (4 * mant + 2) * g % (4 * g) = 2 * g := by
              rw [Nat.mul_mod_mul_right]
              congr 1
              omega
            omega
          refine ⟨n - 1, ?_⟩
          rw [if_neg hm]
          have hn1 : 1 ≤ n := by
            rcases Nat.eq_zero_or_pos n with h0 | h0
            · subst h0
              have : 0 < (4 * mant + 2) * g := Nat.mul_pos (by omega) hg
              simp at hd
              omega
            · exact h0
          have e5 : 4 * (n - 1) * D + 4 * D = 4 * D * n := by
            rw [← e4, ← Nat.add_mul]; congr 1; omega
          omega
        · exact ⟨n, by rw [if_neg hm]; omega⟩
    | true =>
      have hw := h.skewed rfl
      have ec : (4 * mant + 2) * g = cl mant true * g + 3 * g := by
        rw [← Nat.add_mul]; congr 1; unfold cl; show 4 * mant + 2 = 4 * mant - 1 + 3; have := h.one; omega
      unfold InI
      exact ⟨n, by rw [if_pos (by omega)]; omega⟩
  obtain ⟨n, hn⟩ := ex
  have := (in_iff h n).1 hn
  omega

theorem mid_in {mant : Nat} {skew : Bool} {g D : Nat} (h : Fits mant skew g D) (hlt : lowD mant skew g D < topD mant g D) : InI mant skew g D (midD mant g D) := by
  have hp := h.pos
  have hg := h.gpos
  have near := rnd_near (N := 4 * mant * g) hp
  obtain ⟨n, hn⟩ : ∃ n, midD mant g D = n := ⟨_, rfl⟩
  rw [show rndU (unr (4 * mant * g) D) = n from hn] at near
  rw [hn]
  have ec : ∃ w, w ≤ 2 * g ∧ g ≤ w ∧ 4 * mant * g = cl mant skew * g + w ∧ (D < 3 * g ∧ (w ≤ 2 * D → g ≤ 2 * D)) := by
    cases skew with
    | false =>
      refine ⟨2 * g, by omega, by omega, ?_, ?_⟩
      · rw [← Nat.add_mul]; congr 1; unfold cl; show 4 * mant = 4 * mant - 2 + 2; have := h.one; omega
      · have := h.plain rfl; omega
    | true =>
      refine ⟨g, by omega, by omega, ?_, ?_⟩
      · rw [show cl mant true * g + g = (cl mant true + 1) * g by rw [Nat.add_mul, Nat.one_mul]]; congr 1; unfold cl; show 4 * mant = 4 * mant - 1 + 1; have := h.one; omega
      · have := h.skewed rfl; omega
  obtain ⟨w, hw1, hw2, hw3, hw4, hw5⟩ := ec
  have eR : (4 * mant + 2) * g = 4 * mant * g + 2 * g := by rw [Nat.add_mul]
  refine (in_iff h n).2 ⟨?_, ?_⟩
  · rcases Nat.lt_or_ge n (lowD mant skew g D) with hc | hc
    · exfalso
      have hin := (in_iff h (topD mant g D)).2 ⟨Nat.le_of_lt hlt, Nat.le_refl _⟩
      have hup : 4 * topD mant g D * D ≤ (4 * mant + 2) * g := by
        unfold InI at hin
        split at hin
        · exact hin.2
        · exact Nat.le_of_lt hin.2
      have h2 : 4 * (n + 2) * D ≤ 4 * topD mant g D * D := Nat.mul_le_mul_right D (by omega)
      have e2 : 4 * (n + 2) * D = 4 * n * D + 8 * D := by grind
      have hno : 4 * n * D ≤ cl mant skew * g := by
        rcases Nat.lt_or_ge (cl mant skew * g) (4 * n * D) with hx | hx
        · exfalso
          have : lowD mant skew g D ≤ n := by
            unfold lowD
            by_cases hm : mant % 2 = 0
            · rw [hm]; exact (low_even hp n).1 (Nat.le_of_lt hx)
            · rw [show mant % 2 = 1 by omega]; exact (low_odd hp n).1 hx
          omega
        · exact hx
      omega
    · exact hc
  · rcases Nat.lt_or_ge (topD mant g D) n with hc | hc
    · exfalso
      have hin := (in_iff h (lowD mant skew g D)).2 ⟨Nat.le_refl _, Nat.le_of_lt hlt⟩
      have hlo : cl mant skew * g ≤ 4 * lowD mant skew g D * D := by
        unfold InI at hin
        split at hin
        · exact hin.1
        · exact Nat.le_of_lt hin.1
      have h2 : 4 * lowD mant skew g D * D ≤ 4 * (n - 2) * D := Nat.mul_le_mul_right D (by omega)
      have e2 : 4 * (n - 2) * D + 8 * D = 4 * n * D := by rw [← Nat.add_mul]; congr 1; omega
      have hno : (4 * mant + 2) * g ≤ 4 * n * D := by
        rcases Nat.lt_or_ge (4 * n * D) ((4 * mant + 2) * g) with hx | hx
        · exfalso
          have : n ≤ topD mant g D := by
            unfold topD
            by_cases hm : mant % 2 = 0
            · rw [hm]; exact (top_even hp n).1 (Nat.le_of_lt hx)
            · rw [show mant % 2 = 1 by omega]; exact (top_odd hp (Nat.mul_pos (by omega) hg) n).1 hx
          omega
        · exact hx
      omega
    · exact hc

/-- The digits that the library tells: a whole number, and whether it counts tens. -/
def shortD (mant : Nat) (skew : Bool) (g D : Nat) : Nat × Bool :=
  if lowD mant skew g D ≤ topD mant g D / 10 * 10 then (topD mant g D / 10, true) else
  if lowD mant skew g D < topD mant g D then (midD mant g D, false) else (lowD mant skew g D, false)

theorem short_in {mant : Nat} {skew : Bool} {g D : Nat} (h : Fits mant skew g D) : InI mant skew g D (bif (shortD mant skew g D).2 then 10 * (shortD mant skew g D).1 else (shortD mant skew g D).1) := by
  unfold shortD
  by_cases h1 : lowD mant skew g D ≤ topD mant g D / 10 * 10
  · rw [if_pos h1]
    show InI mant skew g D (10 * (topD mant g D / 10))
    exact (in_iff h _).2 ⟨by omega, by omega⟩
  · rw [if_neg h1]
    by_cases h2 : lowD mant skew g D < topD mant g D
    · rw [if_pos h2]; exact mid_in h h2
    · rw [if_neg h2]
      show InI mant skew g D (lowD mant skew g D)
      exact (in_iff h _).2 ⟨Nat.le_refl _, low_le_top h⟩

theorem short_pos {mant : Nat} {skew : Bool} {g D : Nat} (h : Fits mant skew g D) : 1 ≤ (shortD mant skew g D).1 ∧ (shortD mant skew g D).1 < 100000000000000000 := by
  have h1 := in_pos h (short_in h)
  have h2 := in_lt h (short_in h)
  cases hb : (shortD mant skew g D).2 <;> rw [hb] at h1 h2 <;> simp only [cond_true, cond_false] at h1 h2 <;> omega
end Go.Proofs.YtalaajniammggaaGreatDoor

/- Numbers times powers of two and of ten, held against each other. -/
namespace Go.Proofs.YtalaajniammggaaGreatDoor

/-- a times 2^k is at most (below) b times 10^q. -/
def le2 (a : Nat) (k : Int) (b : Nat) (q : Int) : Prop := a * 2 ^ k.toNat * 10 ^ (-q).toNat ≤ b * 10 ^ q.toNat * 2 ^ (-k).toNat
def lt2 (a : Nat) (k : Int) (b : Nat) (q : Int) : Prop := a * 2 ^ k.toNat * 10 ^ (-q).toNat < b * 10 ^ q.toNat * 2 ^ (-k).toNat
/-- b times 10^q is at most (below) a times 2^k. -/
def ge2 (a : Nat) (k : Int) (b : Nat) (q : Int) : Prop := b * 10 ^ q.toNat * 2 ^ (-k).toNat ≤ a * 2 ^ k.toNat * 10 ^ (-q).toNat
def gt2 (a : Nat) (k : Int) (b : Nat) (q : Int) : Prop := b * 10 ^ q.toNat * 2 ^ (-k).toNat < a * 2 ^ k.toNat * 10 ^ (-q).toNat

theorem cross_le {A1 B1 A2 B2 E F : Nat} (hE : 0 < E) (hF : 0 < F) (h1 : A1 * F = A2 * E) (h2 : B1 * F = B2 * E) : A1 ≤ B1 ↔ A2 ≤ B2 := by
  constructor
  · intro h
    have := Nat.mul_le_mul_right F h
    rw [h1, h2] at this
    exact Nat.le_of_mul_le_mul_right this hE
  · intro h
    have := Nat.mul_le_mul_right E h
    rw [← h1, ← h2] at this
    exact Nat.le_of_mul_le_mul_right this hF
theorem cross_lt {A1 B1 A2 B2 E F : Nat} (hE : 0 < E) (hF : 0 < F) (h1 : A1 * F = A2 * E) (h2 : B1 * F = B2 * E) : A1 < B1 ↔ A2 < B2 := by
  rw [← Nat.not_le, ← Nat.not_le, cross_le hE hF h2 h1]

theorem pw (a b c d e f : Nat) (h : a + b + c = d + e + f) : 2 ^ a * 2 ^ b * 2 ^ c = 2 ^ d * 2 ^ e * 2 ^ f := by
  rw [← Nat.pow_add, ← Nat.pow_add, ← Nat.pow_add, ← Nat.pow_add, h]

theorem two_pos (n : Nat) : 0 < 2 ^ n := Nat.pow_pos (by decide)
theorem ten_pos (n : Nat) : 0 < 10 ^ n := Nat.pow_pos (by decide)
theorem ten_split (n : Nat) : 10 ^ n = 2 ^ n * 5 ^ n := by rw [← Nat.mul_pow]

/-- Both sides at a row of the table: ten to the power that stands there on the right. -/
theorem row_eqs (i a b : Nat) (kk : Int) (p : Int) (hp : p = (i : Int) - 348) (A B : Nat) (h : (A : Int) - B = kk + 127 - lpOf i) :
    ∃ E F : Nat, 0 < E ∧ 0 < F ∧ a * 2 ^ kk.toNat * 10 ^ (-p).toNat * F = a * 2 ^ A * Td i * E ∧ b * 10 ^ p.toNat * 2 ^ (-kk).toNat * F = b * Tn i * 2 ^ B * E := by
  subst hp
  unfold lpOf at h
  unfold Td Tn
  cases hc : Nat.ble 348 i with
  | true =>
    have hi := Nat.le_of_ble_eq_true hc
    rw [hc] at h
    simp only [cond_true] at h ⊢
    rw [show (-((i : Int) - 348)).toNat = 0 by omega, show ((i : Int) - 348).toNat = i - 348 by omega, ten_split (i - 348)]
    generalize (5 ^ (i - 348)).log2 = L at *
    refine ⟨2 ^ kk.toNat, 2 ^ A * 2 ^ L, two_pos _, Nat.mul_pos (two_pos _) (two_pos _), ?_, ?_⟩
    · generalize 2 ^ kk.toNat = X
      generalize 2 ^ A = Y
      generalize 2 ^ L = Z
      grind
    · have e := pw (i - 348) (-kk).toNat (A + L) 127 B kk.toNat (by omega)
      rw [Nat.pow_add 2 A L] at e
      generalize 5 ^ (i - 348) = P5
      generalize 2 ^ (i - 348) = P2 at *
      generalize 2 ^ kk.toNat = X at *
      generalize 2 ^ (-kk).toNat = X' at *
      generalize 2 ^ A = Y at *
      generalize 2 ^ L = Z at *
      generalize 2 ^ B = W at *
      generalize 2 ^ 127 = C at *
      grind
  | false =>
    have hi : i < 348 := by
      rcases Nat.lt_or_ge i 348 with h | h
      · exact h
      · rw [Nat.ble_eq_true_of_le h] at hc; cases hc
    rw [hc] at h
    simp only [cond_false] at h ⊢
    rw [show (-((i : Int) - 348)).toNat = 348 - i by omega, show ((i : Int) - 348).toNat = 0 by omega, ten_split (348 - i)]
    generalize (5 ^ (348 - i)).log2 = L at *
    refine ⟨2 ^ kk.toNat * 2 ^ (348 - i), 2 ^ A, Nat.mul_pos (two_pos _) (two_pos _), two_pos _, ?_, ?_⟩
    · generalize 5 ^ (348 - i) = P5
      generalize 2 ^ (348 - i) = P2
      generalize 2 ^ kk.toNat = X
      generalize 2 ^ A = Y
      grind
    · have e := pw 0 (-kk).toNat A (128 + L) B (kk.toNat + (348 - i)) (by omega)
      rw [Nat.pow_add 2 kk.toNat, Nat.pow_zero] at e
      generalize 2 ^ (348 - i) = P2 at *
      generalize 2 ^ kk.toNat = X at *
      generalize 2 ^ (-kk).toNat = X' at *
      generalize 2 ^ A = Y at *
      generalize 2 ^ B = W at *
      generalize 2 ^ (128 + L) = C at *
      grind

/-- The same with the power on the left. -/
theorem row_eqs' (i a b : Nat) (kk : Int) (q : Int) (hq : q = 348 - (i : Int)) (A B : Nat) (h : (A : Int) - B = kk + lpOf i - 127) :
    ∃ E F : Nat, 0 < E ∧ 0 < F ∧ a * 2 ^ kk.toNat * 10 ^ (-q).toNat * F = a * Tn i * 2 ^ A * E ∧ b * 10 ^ q.toNat * 2 ^ (-kk).toNat * F = b * 2 ^ B * Td i * E := by
  obtain ⟨E, F, hE, hF, h1, h2⟩ := row_eqs i b a (-kk) (-q) (by omega) B A (by omega)
  refine ⟨E, F, hE, hF, ?_, ?_⟩
  · rw [show (- -kk).toNat = kk.toNat by congr 1; omega] at h2
    rw [← h2]
    generalize 2 ^ kk.toNat = X
    generalize 10 ^ (-q).toNat = Y
    grind
  · rw [show (- -q).toNat = q.toNat by congr 1; omega] at h1
    rw [← h1]
    generalize 2 ^ (-kk).toNat = X
    generalize 10 ^ q.toNat = Y
    grind

/-- A power of ten taken over. -/
theorem ten_eqs (a b j : Nat) (k q : Int) : ∃ E F : Nat, 0 < E ∧ 0 < F ∧ a * 2 ^ k.toNat * 10 ^ (-q).toNat * F = a * 2 ^ k.toNat * 10 ^ (-(q + j)).toNat * E ∧ b * 10 ^ j * 10 ^ q.toNat * 2 ^ (-k).toNat * F = b * 10 ^ (q + j).toNat * 2 ^ (-k).toNat * E := by
  refine ⟨10 ^ (-q).toNat, 10 ^ (-(q + j)).toNat, ten_pos _, ten_pos _, ?_, ?_⟩
  · generalize 10 ^ (-q).toNat = X
    generalize 10 ^ (-(q + j)).toNat = Y
    generalize 2 ^ k.toNat = Z
    grind
  · have e : 10 ^ j * 10 ^ q.toNat * 10 ^ (-(q + j)).toNat = 10 ^ (q + j).toNat * 10 ^ (-q).toNat := by
      rw [← Nat.pow_add, ← Nat.pow_add, ← Nat.pow_add]
      congr 1
      omega
    generalize 10 ^ (-q).toNat = X at *
    generalize 10 ^ (-(q + j)).toNat = Y at *
    generalize 10 ^ (q + j).toNat = Y' at *
    generalize 10 ^ q.toNat = X' at *
    generalize 10 ^ j = J at *
    generalize 2 ^ (-k).toNat = Z
    grind

theorem le2_ten (a b j : Nat) (k q : Int) : le2 a k (b * 10 ^ j) q ↔ le2 a k b (q + j) := by
  obtain ⟨E, F, hE, hF, h1, h2⟩ := ten_eqs a b j k q
  exact cross_le hE hF h1 h2
theorem lt2_ten (a b j : Nat) (k q : Int) : lt2 a k (b * 10 ^ j) q ↔ lt2 a k b (q + j) := by
  obtain ⟨E, F, hE, hF, h1, h2⟩ := ten_eqs a b j k q
  exact cross_lt hE hF h1 h2
theorem ge2_ten (a b j : Nat) (k q : Int) : ge2 a k (b * 10 ^ j) q ↔ ge2 a k b (q + j) := by
  obtain ⟨E, F, hE, hF, h1, h2⟩ := ten_eqs a b j k q
  exact cross_le hE hF h2 h1
theorem gt2_ten (a b j : Nat) (k q : Int) : gt2 a k (b * 10 ^ j) q ↔ gt2 a k b (q + j) := by
  obtain ⟨E, F, hE, hF, h1, h2⟩ := ten_eqs a b j k q
  exact cross_lt hE hF h2 h1

/-- The number n 10^q reads back as the float mant 2^k. -/
def Reads (mant : Nat) (k : Int) (skew : Bool) (n : Nat) (q : Int) : Prop :=
  if mant % 2 = 0 then le2 (cl mant skew) k (4 * n) q ∧ ge2 (4 * mant + 2) k (4 * n) q else lt2 (cl mant skew) k (4 * n) q ∧ gt2 (4 * mant + 2) k (4 * n) q

theorem reads_ten (mant : Nat) (k : Int) (skew : Bool) (n j : Nat) (q : Int) : Reads mant k skew (n * 10 ^ j) q ↔ Reads mant k skew n (q + j) := by
  unfold Reads
  rw [show 4 * (n * 10 ^ j) = 4 * n * 10 ^ j by rw [Nat.mul_assoc], le2_ten, ge2_ten, lt2_ten, gt2_ten]

/-- On the scale of a row. -/
theorem reads_in {mant : Nat} {k : Int} {skew : Bool} {i : Nat} {u s : Nat} (hu : (u : Int) = k + lpOf i + 1) (n : Nat) :
    InI mant skew (Tn i * 2 ^ (u + s)) (Td i * (340282366920938463463374607431768211456 * 2 ^ s)) n ↔ Reads mant k skew n (348 - (i : Int)) := by
  have hs : Td i * (340282366920938463463374607431768211456 * 2 ^ s) = 2 ^ (128 + s) * Td i := by
    rw [Nat.pow_add]; generalize 2 ^ s = S; grind
  have e : ∀ a, a * (Tn i * 2 ^ (u + s)) = a * Tn i * 2 ^ (u + s) := fun a => by rw [Nat.mul_assoc]
  have f : 4 * n * (Td i * (340282366920938463463374607431768211456 * 2 ^ s)) = 4 * n * 2 ^ (128 + s) * Td i := by rw [hs, ← Nat.mul_assoc]
  unfold InI Reads
  rw [e, e, f]
  obtain ⟨E, F, hE, hF, h1, h2⟩ := row_eqs' i (cl mant skew) (4 * n) k (348 - (i : Int)) rfl (u + s) (128 + s) (by omega)
  obtain ⟨E', F', hE', hF', h1', h2'⟩ := row_eqs' i (4 * mant + 2) (4 * n) k (348 - (i : Int)) rfl (u + s) (128 + s) (by omega)
  unfold le2 ge2 lt2 gt2
  rw [cross_le hE hF h1 h2, cross_le hE' hF' h2' h1', cross_lt hE hF h1 h2, cross_lt hE' hF' h2' h1']
end Go.Proofs.YtalaajniammggaaGreatDoor

/- The shortest digits of a float, and that they read back. -/
namespace Go.Proofs.YtalaajniammggaaGreatDoor

/-- A finite float above 0: mant 2^k. -/
structure Flo (mant : Nat) (k : Int) : Prop where
  one : 1 ≤ mant
  top : mant < 9007199254740992
  lo : -1074 ≤ k
  hi : k ≤ 971
  norm : k = -1074 ∨ 4503599627370496 ≤ mant

def skewOf (mant : Nat) (k : Int) : Bool := decide (mant = 4503599627370496) && decide (-1074 < k)
def sft (mant : Nat) : Nat := 63 - mant.log2

theorem sft_facts {mant : Nat} (h1 : 1 ≤ mant) (h2 : mant < 9007199254740992) : 11 ≤ sft mant ∧ sft mant ≤ 63 ∧ 9223372036854775808 ≤ mant * 2 ^ sft mant ∧ mant * 2 ^ sft mant < 18446744073709551616 := by
  have a : mant.log2 < 53 := (Nat.log2_lt (by omega)).2 (by omega)
  have b := Nat.log2_self_le (n := mant) (by omega)
  have c := Nat.lt_log2_self (n := mant)
  unfold sft
  refine ⟨by omega, by omega, ?_, ?_⟩
  · have := Nat.mul_le_mul_right (2 ^ (63 - mant.log2)) b
    rw [← Nat.pow_add, show mant.log2 + (63 - mant.log2) = 63 by omega] at this
    exact this
  · have := Nat.mul_lt_mul_of_pos_right c (two_pos (63 - mant.log2))
    rw [← Nat.pow_add, show mant.log2 + 1 + (63 - mant.log2) = 64 by omega] at this
    exact this

def gOf (mant : Nat) (k : Int) : Nat := Tn (ix (skewOf mant k) k) * 2 ^ (sft mant - 2)
def sOf (mant : Nat) (k : Int) : Nat := sft mant - 2 - up (skewOf mant k) k
def DOf (mant : Nat) (k : Int) : Nat := Td (ix (skewOf mant k) k) * (340282366920938463463374607431768211456 * 2 ^ sOf mant k)

theorem s_facts {mant : Nat} {k : Int} (h : Flo mant k) : 5 ≤ sOf mant k ∧ sOf mant k ≤ 60 ∧ sft mant - 2 = up (skewOf mant k) k + sOf mant k ∧ (up (skewOf mant k) k : Int) = k + lpOf (ix (skewOf mant k) k) + 1 := by
  have F := k_facts (skewOf mant k) k h.lo h.hi
  have G := sft_facts h.one h.top
  have h1 := F.one
  have h4 := F.four
  have e : (up (skewOf mant k) k : Int) = k + lpOf (ix (skewOf mant k) k) + 1 := by unfold up; omega
  unfold sOf
  omega

theorem fits_of {mant : Nat} {k : Int} (h : Flo mant k) : Fits mant (skewOf mant k) (gOf mant k) (DOf mant k) := by
  have F := k_facts (skewOf mant k) k h.lo h.hi
  obtain ⟨_, _, hs, _⟩ := s_facts h
  have hT := Td_pos (ix (skewOf mant k) k)
  have fit := F.fit
  have eg : gOf mant k = Tn (ix (skewOf mant k) k) * 2 ^ up (skewOf mant k) k * 2 ^ sOf mant k := by
    unfold gOf; rw [hs, Nat.pow_add, Nat.mul_assoc]
  have eD : DOf mant k = Td (ix (skewOf mant k) k) * 340282366920938463463374607431768211456 * 2 ^ sOf mant k := by
    unfold DOf; rw [Nat.mul_assoc]
  have hS := two_pos (sOf mant k)
  refine ⟨h.one, h.top, ?_, ?_, ?_⟩
  · rw [eD]; exact Nat.mul_pos (by omega) hS
  · intro hf
    rw [if_neg (by rw [hf]; simp)] at fit
    rw [eg, eD]
    refine ⟨Nat.mul_le_mul_right _ fit.1, ?_⟩
    have := Nat.mul_lt_mul_of_pos_right fit.2 hS
    rwa [Nat.mul_assoc 10] at this
  · intro ht
    rw [if_pos ht] at fit
    rw [eg, eD]
    refine ⟨?_, ?_, ?_⟩
    · have := Nat.mul_le_mul_right (2 ^ sOf mant k) fit.1
      rwa [Nat.mul_assoc 4, Nat.mul_assoc 3] at this
    · have := Nat.mul_lt_mul_of_pos_right fit.2 hS
      rwa [Nat.mul_assoc 40, Nat.mul_assoc 3] at this
    · unfold skewOf at ht
      simp only [Bool.and_eq_true, decide_eq_true_eq] at ht
      exact ht.1

/-- The digits as a whole number, and the power of ten. -/
def shortM (mant : Nat) (k : Int) : Nat × Int :=
  ((shortD mant (skewOf mant k) (gOf mant k) (DOf mant k)).1, 348 - (ix (skewOf mant k) k : Int) + (if (shortD mant (skewOf mant k) (gOf mant k) (DOf mant k)).2 = true then 1 else 0))

theorem shortM_reads {mant : Nat} {k : Int} (h : Flo mant k) : Reads mant k (skewOf mant k) (shortM mant k).1 (shortM mant k).2 := by
  have F := fits_of h
  have hin := short_in F
  obtain ⟨_, _, hs, hu⟩ := s_facts h
  have key : ∀ n, InI mant (skewOf mant k) (gOf mant k) (DOf mant k) n ↔ Reads mant k (skewOf mant k) n (348 - (ix (skewOf mant k) k : Int)) := fun n => by
    have := reads_in (mant := mant) (k := k) (skew := skewOf mant k) (i := ix (skewOf mant k) k) (u := up (skewOf mant k) k) (s := sOf mant k) hu n
    unfold gOf DOf
    rw [hs]
    exact this
  rw [key] at hin
  unfold shortM
  cases hb : (shortD mant (skewOf mant k) (gOf mant k) (DOf mant k)).2 with
  | false =>
    rw [hb] at hin
    simp only [cond_false] at hin
    rw [if_neg (by simp), Int.add_zero]
    exact hin
  | true =>
    rw [hb] at hin
    simp only [cond_true] at hin
    rw [if_pos rfl]
    rw [Nat.mul_comm 10] at hin
    have := (reads_ten mant k (skewOf mant k) _ 1 _).1 hin
    exact this

theorem shortM_bounds {mant : Nat} {k : Int} (h : Flo mant k) : 1 ≤ (shortM mant k).1 ∧ (shortM mant k).1 < 100000000000000000 ∧ -324 ≤ (shortM mant k).2 ∧ (shortM mant k).2 ≤ 293 := by
  have F := k_facts (skewOf mant k) k h.lo h.hi
  have G := short_pos (fits_of h)
  have h1 := F.lo
  have h2 := F.hi
  unfold shortM
  refine ⟨G.1, G.2, ?_, ?_⟩
  · simp only; split <;> omega
  · simp only; split <;> omega

/-- What is scaled, out of the table. -/
theorem scaled {mant : Nat} {k : Int} (h : Flo mant k) {r : Nat × Nat} (hr : Pinned.pow10Rows[ix (skewOf mant k) k]? = some r) (c : Nat) (hc : 1 ≤ c) (hx : c * 2 ^ (sft mant - 2) < 18446744073709551616) :
    uc (c * 2 ^ (sft mant - 2)) r.1 r.2 (sOf mant k) = unr (c * gOf mant k) (DOf mant k) := by
  have G := sft_facts h.one h.top
  obtain ⟨hs, _⟩ := s_facts h
  have e : 2 ^ (sft mant - 2) = 128 * 2 ^ (sft mant - 9) := by
    rw [show (128 : Nat) = 2 ^ 7 from rfl, ← Nat.pow_add]; congr 1; omega
  have h2 := two_pos (sft mant - 9)
  have := uscale_right hr hx (by rw [e, ← Nat.mul_assoc]; have := Nat.mul_pos (show 0 < c * 128 by omega) h2; have := Nat.mul_le_mul_right (2 ^ (sft mant - 9)) (show 2 ≤ c * 128 by omega); omega) (.inr ⟨hs, by rw [e, show c * (128 * 2 ^ (sft mant - 9)) = 128 * (c * 2 ^ (sft mant - 9)) by grind, Nat.mul_mod_right]⟩)
  rw [this]
  unfold gOf DOf
  congr 1
  rw [Nat.mul_assoc, Nat.mul_comm (2 ^ _)]
end Go.Proofs.YtalaajniammggaaGreatDoor

/- What is read: the float that a number reads back as. -/
namespace Go.Proofs.YtalaajniammggaaGreatDoor

def rows2 : Nat → Bool
  | 0 => true
  | i + 1 => Nat.ble (170141183460469231731687303715884105728 * Td i) (Tn i) && Nat.ble (Tn i) (340282366920937254537554992802593505280 * Td i) && rows2 i

set_option maxRecDepth 100000 in
theorem rows2_ok : rows2 696 = true := by decide +kernel

theorem rows2_at : ∀ (n i : Nat), rows2 n = true → i < n → 170141183460469231731687303715884105728 * Td i ≤ Tn i ∧ Tn i ≤ 340282366920937254537554992802593505280 * Td i
  | 0, i, _, h => absurd h (Nat.not_lt_zero i)
  | n + 1, i, hk, h => by
    unfold rows2 at hk
    by_cases e : i = n
    · subst e
      exact ⟨Nat.le_of_ble_eq_true (and_l (and_l hk)), Nat.le_of_ble_eq_true (and_r (and_l hk))⟩
    · exact rows2_at n i (and_r hk) (by omega)

theorem rnd_at {N D m : Nat} (hD : 0 < D) (hm : 1 ≤ m) (h : if m % 2 = 0 then (4 * m - 2) * D ≤ N ∧ N ≤ (4 * m + 2) * D else (4 * m - 2) * D < N ∧ N < (4 * m + 2) * D) : rndU (unr N D) = m := by
  have hd := Nat.div_add_mod N D
  have hl := Nat.mod_lt N hD
  obtain ⟨q, hq⟩ : ∃ q, N / D = q := ⟨_, rfl⟩
  obtain ⟨r, hr⟩ : ∃ r, N % D = r := ⟨_, rfl⟩
  rw [hq, hr] at hd
  rw [hr] at hl
  unfold rndU unr
  rw [hq, hr]
  have lo : 4 * m - 2 ≤ q := by
    have : (4 * m - 2) * D ≤ N := by split at h; exact h.1; exact Nat.le_of_lt h.1
    have := (Nat.le_div_iff_mul_le hD).2 this
    omega
  have hi : q ≤ 4 * m + 2 := by
    have : N ≤ (4 * m + 2) * D := by split at h; exact h.2; exact Nat.le_of_lt h.2
    have := Nat.div_le_div_right (c := D) this
    rw [Nat.mul_div_cancel _ hD] at this
    omega
  have lo0 : r = 0 → m % 2 = 1 → q ≠ 4 * m - 2 := by
    intro a b c
    rw [if_neg (by omega), ← hd, a, c, Nat.mul_comm D] at h
    omega
  have hi0 : r = 0 → m % 2 = 1 → q ≠ 4 * m + 2 := by
    intro a b c
    rw [if_neg (by omega), ← hd, a, c, Nat.mul_comm D] at h
    omega
  have hi1 : r ≠ 0 → q ≠ 4 * m + 2 := by
    intro a c
    have : N ≤ (4 * m + 2) * D := by split at h; exact h.2; exact Nat.le_of_lt h.2
    rw [← hd, c, Nat.mul_comm D] at this
    omega
  by_cases h0 : r = 0
  · rw [if_pos h0]
    rcases Nat.mod_two_eq_zero_or_one m with hm2 | hm2
    · obtain ⟨a, ha⟩ : ∃ a, m = 2 * a := ⟨m / 2, by omega⟩
      have : q = 4 * m - 2 ∨ q = 4 * m - 1 ∨ q = 4 * m ∨ q = 4 * m + 1 ∨ q = 4 * m + 2 := by omega
      rcases this with h | h | h | h | h <;> omega
    · obtain ⟨a, ha⟩ : ∃ a, m = 2 * a + 1 := ⟨m / 2, by omega⟩
      have := lo0 h0 hm2
      have := hi0 h0 hm2
      have : q = 4 * m - 1 ∨ q = 4 * m ∨ q = 4 * m + 1 := by omega
      rcases this with h | h | h <;> omega
  · rw [if_neg h0]
    have := hi1 h0
    have : q / 2 * 2 + 1 = 4 * m - 1 ∨ q / 2 * 2 + 1 = 4 * m + 1 := by omega
    generalize q / 2 * 2 + 1 = u at *
    rcases this with h | h
    · subst h
      rcases Nat.mod_two_eq_zero_or_one ((4 * m - 1) / 4) with h2 | h2 <;> rw [h2] <;> omega
    · subst h
      rcases Nat.mod_two_eq_zero_or_one ((4 * m + 1) / 4) with h2 | h2 <;> rw [h2] <;> omega

theorem unr_half (N D : Nat) (hD : 0 < D) : (if unr N D % 2 = 1 then unr N D / 2 / 2 * 2 + 1 else unr N D / 2) = unr N (D * 2) := by
  have hd := Nat.div_add_mod N D
  have hl := Nat.mod_lt N hD
  have e1 : N / (D * 2) = N / D / 2 := by rw [Nat.div_div_eq_div_mul]
  have e2 : N % (D * 2) = 0 ↔ N % D = 0 ∧ N / D % 2 = 0 := by
    have hd2 := Nat.div_add_mod N (D * 2)
    rw [e1] at hd2
    obtain ⟨q, hq⟩ : ∃ q, N / D = q := ⟨_, rfl⟩
    obtain ⟨r, hr⟩ : ∃ r, N % D = r := ⟨_, rfl⟩
    rw [hq, hr] at hd
    rw [hr] at hl
    rw [hq] at hd2
    rw [hq, hr]
    have eq2 := Nat.div_add_mod q 2
    have hx : D * q = D * 2 * (q / 2) + D * (q % 2) := by rw [Nat.mul_assoc, ← Nat.mul_add, eq2]
    constructor
    · intro h
      rw [h] at hd2
      rcases Nat.mod_two_eq_zero_or_one q with h2 | h2
      · rw [h2, Nat.mul_zero] at hx; omega
      · rw [h2, Nat.mul_one] at hx; omega
    · rintro ⟨h1, h2⟩
      rw [h2, Nat.mul_zero] at hx
      omega
  unfold unr
  rw [e1]
  by_cases h : N % D = 0
  · rw [if_pos h]
    by_cases h2 : N / D % 2 = 0
    · rw [if_pos (e2.2 ⟨h, h2⟩), if_neg (by omega)]
    · rw [if_neg (fun x => h2 (e2.1 x).2), if_pos (by omega)]
  · rw [if_neg h, if_neg (fun x => h (e2.1 x).1), if_pos (by omega)]
    generalize N / D = q
    omega

def bitsD (d : Nat) : Nat := d.log2 + 1
/-- How far the library scales when it reads. -/
def eOf (d : Nat) (i : Nat) : Int := min 1074 (53 - (bitsD d : Int) - lpOf i)
def sRd (d : Nat) (i : Nat) : Int := 61 - (bitsD d : Int) - lpOf i - eOf d i
def NRd (d : Nat) (i : Nat) : Nat := d * 2 ^ (64 - bitsD d) * Tn i
def DRd (d : Nat) (i : Nat) : Nat := Td i * (340282366920938463463374607431768211456 * 2 ^ (sRd d i).toNat)

theorem bits_facts {d : Nat} (h1 : 1 ≤ d) (h2 : d < 100000000000000000) : 1 ≤ bitsD d ∧ bitsD d ≤ 57 ∧ 9223372036854775808 ≤ d * 2 ^ (64 - bitsD d) ∧ d * 2 ^ (64 - bitsD d) < 18446744073709551616 := by
  have a : d.log2 < 57 := (Nat.log2_lt (by omega)).2 (by omega)
  have b := Nat.log2_self_le (n := d) (by omega)
  have c := Nat.lt_log2_self (n := d)
  unfold bitsD
  refine ⟨by omega, by omega, ?_, ?_⟩
  · have := Nat.mul_le_mul_right (2 ^ (64 - (d.log2 + 1))) b
    rw [← Nat.pow_add, show d.log2 + (64 - (d.log2 + 1)) = 63 by omega] at this
    exact this
  · have := Nat.mul_lt_mul_of_pos_right c (two_pos (64 - (d.log2 + 1)))
    rw [← Nat.pow_add, show d.log2 + 1 + (64 - (d.log2 + 1)) = 64 by omega] at this
    exact this

/-- The float that is read is the one that the number reads back as. -/
theorem parse_right {mant : Nat} {k : Int} (h : Flo mant k) {d i : Nat} (hd1 : 1 ≤ d) (hd2 : d < 100000000000000000) (hi : i < 696) (hR : Reads mant k (skewOf mant k) d ((i : Int) - 348)) :
    8 ≤ sRd d i ∧ sRd d i < 64 ∧
    ((unr (NRd d i) (DRd d i) < 36028797018963966 ∧ rndU (unr (NRd d i) (DRd d i)) = mant ∧ eOf d i = -k) ∨
     (36028797018963966 ≤ unr (NRd d i) (DRd d i) ∧ rndU (unr (NRd d i) (DRd d i * 2)) = mant ∧ eOf d i - 1 = -k)) := by
  obtain ⟨b1, b2, b3, b4⟩ := bits_facts hd1 hd2
  obtain ⟨t1, t2⟩ := rows2_at 696 i rows2_ok hi
  have hT := Td_pos i
  have h8 : 8 ≤ sRd d i := by unfold sRd eOf; omega
  obtain ⟨S, hS⟩ : ∃ S, S = (sRd d i).toNat := ⟨_, rfl⟩
  have eS : (S : Int) = 61 - (bitsD d : Int) - lpOf i - eOf d i := by rw [hS]; unfold sRd at *; omega
  have e74 : eOf d i ≤ 1074 := by unfold eOf; omega
  have e53 : eOf d i = 1074 ∨ eOf d i = 53 - (bitsD d : Int) - lpOf i := by unfold eOf; omega
  have hDp : 0 < DRd d i := Nat.mul_pos hT (Nat.mul_pos (by decide) (two_pos _))
  have eD : DRd d i = 2 ^ (128 + S) * Td i := by
    unfold DRd; rw [← hS, Nat.pow_add]; generalize 2 ^ S = Z; grind
  have eN : NRd d i = 4 * d * Tn i * 2 ^ (62 - bitsD d) := by
    unfold NRd
    rw [show 64 - bitsD d = 2 + (62 - bitsD d) by omega, Nat.pow_add]
    generalize 2 ^ (62 - bitsD d) = Z
    grind
  -- the numbers against each other
  have cmp : ∀ (a : Nat) (t : Nat), (t : Int) = k + eOf d i → (le2 a k (4 * d) ((i : Int) - 348) ↔ a * 2 ^ t * DRd d i ≤ NRd d i) ∧ (lt2 a k (4 * d) ((i : Int) - 348) ↔ a * 2 ^ t * DRd d i < NRd d i) ∧ (ge2 a k (4 * d) ((i : Int) - 348) ↔ NRd d i ≤ a * 2 ^ t * DRd d i) ∧ (gt2 a k (4 * d) ((i : Int) - 348) ↔ NRd d i < a * 2 ^ t * DRd d i) := by
    intro a t ht
    obtain ⟨E, F, hE, hF, h1, h2⟩ := row_eqs i a (4 * d) k ((i : Int) - 348) rfl (t + (128 + S)) (62 - bitsD d) (by omega)
    have e : a * 2 ^ (t + (128 + S)) * Td i = a * 2 ^ t * DRd d i := by
      rw [eD, Nat.pow_add]; generalize 2 ^ (128 + S) = Y; generalize 2 ^ t = Z; grind
    rw [e] at h1
    rw [← eN] at h2
    exact ⟨cross_le hE hF h1 h2, cross_lt hE hF h1 h2, cross_le hE hF h2 h1, cross_lt hE hF h2 h1⟩
  have low : ∀ t : Nat, (t : Int) = k + eOf d i → cl mant (skewOf mant k) * 2 ^ t * DRd d i ≤ NRd d i ∧ NRd d i ≤ (4 * mant + 2) * 2 ^ t * DRd d i := by
    intro t ht
    have c1 := cmp (cl mant (skewOf mant k)) t ht
    have c2 := cmp (4 * mant + 2) t ht
    unfold Reads at hR
    split at hR
    · exact ⟨c1.1.1 hR.1, c2.2.2.1.1 hR.2⟩
    · exact ⟨Nat.le_of_lt (c1.2.1.1 hR.1), Nat.le_of_lt (c2.2.2.2.1 hR.2)⟩
  have hNhi : NRd d i < 72057594037927680 * DRd d i := by
    have a1 : NRd d i ≤ 18446744073709551615 * (340282366920937254537554992802593505280 * Td i) := Nat.mul_le_mul (by omega) t2
    have a2 : 87112285931760246646623899502532662132736 * Td i ≤ DRd d i := by
      rw [eD]
      refine Nat.mul_le_mul_right (Td i) ?_
      have : 2 ^ 136 ≤ 2 ^ (128 + S) := Nat.pow_le_pow_right (by decide) (by omega)
      exact this
    omega
  have hclb : -1074 < k → 18014398509481983 ≤ cl mant (skewOf mant k) := by
    intro hk
    have hm : 4503599627370496 ≤ mant := by rcases h.norm with h | h <;> omega
    unfold cl
    by_cases he : mant = 4503599627370496
    · rw [show skewOf mant k = true by unfold skewOf; simp [he, hk]]
      simp only [cond_true]; omega
    · cases skewOf mant k
      · simp only [cond_false]; omega
      · simp only [cond_true]; omega
  have hcl2 : 2 ≤ cl mant (skewOf mant k) := by
    unfold cl
    have := h.one
    cases skewOf mant k
    · simp only [cond_false]; omega
    · simp only [cond_true]; omega
  have hcl4 : 4 * mant - 2 ≤ cl mant (skewOf mant k) := by
    unfold cl
    cases skewOf mant k
    · simp only [cond_false]; omega
    · simp only [cond_true]; omega
  have hS64 : sRd d i < 64 := by
    rcases Int.lt_or_le (sRd d i) 64 with h0 | h0
    · exact h0
    · exfalso
      have he : eOf d i = 1074 := by
        rcases e53 with e | e
        · exact e
        · unfold sRd at h0; omega
      have hl := (low (k + 1074).toNat (by have := h.lo; omega)).1
      have a1 : NRd d i ≤ 18446744073709551615 * (340282366920937254537554992802593505280 * Td i) := Nat.mul_le_mul (by omega) t2
      have a2 : 6277101735386680763835789423207666416102355444464034512896 * Td i ≤ DRd d i := by
        rw [eD]
        refine Nat.mul_le_mul_right (Td i) ?_
        have : 2 ^ 192 ≤ 2 ^ (128 + S) := Nat.pow_le_pow_right (by decide) (by omega)
        exact this
      have a3 : 1 * DRd d i ≤ cl mant (skewOf mant k) * 2 ^ (k + 1074).toNat * DRd d i := Nat.mul_le_mul_right _ (Nat.mul_pos (by omega) (two_pos _))
      omega
  refine ⟨h8, hS64, ?_⟩
  -- which exponent
  have hk0 : 0 ≤ k + eOf d i := by
    rcases Int.lt_or_le (k + eOf d i) 0 with h0 | h0
    · exfalso
      have he : eOf d i = 53 - (bitsD d : Int) - lpOf i := by
        rcases e53 with e | e
        · have := h.lo; omega
        · exact e
      have eS8 : S = 8 := by omega
      obtain ⟨t, ht⟩ : ∃ t : Nat, (t : Int) = -(k + eOf d i) - 1 := ⟨(-(k + eOf d i) - 1).toNat, by omega⟩
      obtain ⟨E, F, hE, hF, h1, h2⟩ := row_eqs i (4 * mant + 2) (4 * d) k ((i : Int) - 348) rfl (128 + S) (62 - bitsD d + (t + 1)) (by omega)
      have hge : ge2 (4 * mant + 2) k (4 * d) ((i : Int) - 348) := by
        unfold Reads at hR
        split at hR
        · exact hR.2
        · exact Nat.le_of_lt hR.2
      have h3 := (cross_le hE hF h2 h1).1 hge
      have e1 : 4 * d * Tn i * 2 ^ (62 - bitsD d + (t + 1)) = NRd d i * (2 * 2 ^ t) := by
        rw [eN, Nat.pow_add, Nat.pow_succ]; generalize 2 ^ t = Y; generalize 2 ^ (62 - bitsD d) = Z; grind
      have e2 : (4 * mant + 2) * 2 ^ (128 + S) * Td i = (4 * mant + 2) * DRd d i := by rw [eD, Nat.mul_assoc]
      rw [e1, e2] at h3
      have h4 : NRd d i * 2 ≤ NRd d i * (2 * 2 ^ t) := Nat.mul_le_mul_left _ (by have := two_pos t; omega)
      have h5 : (4 * mant + 2) * DRd d i ≤ 36028797018963966 * DRd d i := Nat.mul_le_mul_right _ (by have := h.top; omega)
      have h6 : 18014398509481984 * DRd d i ≤ NRd d i := by
        rw [eD, eS8]
        unfold NRd
        have := Nat.mul_le_mul b3 t1
        have e7 : (18014398509481984 : Nat) * (2 ^ (128 + 8) * Td i) = 9223372036854775808 * (170141183460469231731687303715884105728 * Td i) := by
          rw [← Nat.mul_assoc, ← Nat.mul_assoc]
        rw [e7]
        exact this
      omega
    · exact h0
  have hk1 : k + eOf d i ≤ 1 := by
    rcases Int.lt_or_le 1 (k + eOf d i) with h0 | h0
    · exfalso
      obtain ⟨t, ht⟩ : ∃ t : Nat, (t : Int) = k + eOf d i - 2 := ⟨(k + eOf d i - 2).toNat, by omega⟩
      have hl := (low (t + 2) (by omega)).1
      have h1 := hclb (by omega)
      have a1 : 72057594037927932 * DRd d i ≤ cl mant (skewOf mant k) * 2 ^ (t + 2) * DRd d i := by
        refine Nat.mul_le_mul_right _ ?_
        have := Nat.mul_le_mul h1 (show 4 ≤ 2 ^ (t + 2) by rw [Nat.pow_add]; have := two_pos t; omega)
        omega
      omega
    · exact h0
  have fin : ∀ (t : Nat), (t : Int) = k + eOf d i → rndU (unr (NRd d i) (DRd d i * 2 ^ t)) = mant := by
    intro t ht
    have c1 := cmp (cl mant (skewOf mant k)) t ht
    have c2 := cmp (4 * mant + 2) t ht
    have e : ∀ a, a * 2 ^ t * DRd d i = a * (DRd d i * 2 ^ t) := fun a => by rw [Nat.mul_assoc, Nat.mul_comm (2 ^ t)]
    rw [e] at c1 c2
    have hle := Nat.mul_le_mul_right (DRd d i * 2 ^ t) hcl4
    refine rnd_at (Nat.mul_pos hDp (two_pos t)) h.one ?_
    unfold Reads at hR
    split at hR
    · next hm =>
      rw [if_pos hm]
      exact ⟨Nat.le_trans hle (c1.1.1 hR.1), c2.2.2.1.1 hR.2⟩
    · next hm =>
      rw [if_neg hm]
      exact ⟨Nat.lt_of_le_of_lt hle (c1.2.1.1 hR.1), c2.2.2.2.1 hR.2⟩
  have hcase : k + eOf d i = 0 ∨ k + eOf d i = 1 := by omega
  rcases hcase with hz | ho
  · left
    have h1 := fin 0 (by omega)
    rw [Nat.pow_zero, Nat.mul_one] at h1
    refine ⟨?_, h1, by omega⟩
    have := h.top
    unfold rndU at h1
    omega
  · right
    have h1 := fin 1 (by omega)
    rw [Nat.pow_one] at h1
    refine ⟨?_, h1, by omega⟩
    have hl := (low 1 (by omega)).1
    have h2 := hclb (by omega)
    have a1 : 36028797018963966 * DRd d i ≤ cl mant (skewOf mant k) * 2 ^ 1 * DRd d i := Nat.mul_le_mul_right _ (by omega)
    have := (Nat.le_div_iff_mul_le hDp).2 (Nat.le_trans a1 hl)
    unfold unr
    split
    · exact this
    · omega
end Go.Proofs.YtalaajniammggaaGreatDoor
