/- How many bits of a word are set, as math/bits counts them: no Go in sight. -/
import Derived.Test.YtjjhfmiegoohlaaDoorM1
namespace Go.Proofs.YtjjhfmiegoohlaaDoor

/-- How many of the secrets below n are in a. -/
def cntTo (a : Nat) : Nat → Nat
  | 0 => 0
  | n + 1 => cntTo a n + (a.testBit n).toNat
def cnt (a : Nat) : Nat := cntTo a 64

theorem cntTo_le (a n : Nat) : cntTo a n ≤ n := by
  induction n with
  | zero => simp [cntTo]
  | succ n ih => simp only [cntTo]; cases a.testBit n <;> simp <;> omega

theorem cntTo_add (a j n : Nat) : cntTo a (j + n) = cntTo a j + cntTo (a / 2 ^ j) n := by
  induction n with
  | zero => simp [cntTo]
  | succ n ih =>
    rw [← Nat.add_assoc, cntTo, ih, cntTo, Nat.testBit_div_two_pow, Nat.add_comm n j]
    omega

theorem and_split (x y r s : Nat) (hr : r < 256) (hs : s < 256) : (256 * x + r) &&& (256 * y + s) = 256 * (x &&& y) + (r &&& s) := by
  have hrs : r &&& s < 2 ^ 8 := Nat.and_lt_two_pow (n := 8) r (by simpa using hs)
  apply Nat.eq_of_testBit_eq
  intro i
  rw [Nat.testBit_and]
  have e1 := Nat.testBit_two_pow_mul_add x (i := 8) (b := r) (by simpa using hr) i
  have e2 := Nat.testBit_two_pow_mul_add y (i := 8) (b := s) (by simpa using hs) i
  have e3 := Nat.testBit_two_pow_mul_add (x &&& y) (i := 8) (b := r &&& s) hrs i
  rw [show (2 : Nat) ^ 8 = 256 from rfl] at e1 e2 e3
  rw [e1, e2, e3]
  split <;> rw [Nat.testBit_and]

/-- The byte c, k times. -/
def mask (c : Nat) : Nat → Nat
  | 0 => 0
  | k + 1 => 256 * mask c k + c

def b1 (r : Nat) : Nat := (r / 2 &&& 85) + (r &&& 85)
def b2 (r : Nat) : Nat := (r / 4 &&& 51) + (r &&& 51)
def b3 (r : Nat) : Nat := (r / 16 + r) % 16
def p8 (r : Nat) : Nat := b3 (b2 (b1 r))
def s1 (a k : Nat) : Nat := (a / 2 &&& mask 85 k) + (a &&& mask 85 k)
def s2 (a k : Nat) : Nat := (a / 4 &&& mask 51 k) + (a &&& mask 51 k)
def s3 (a k : Nat) : Nat := (a / 16 + a) &&& mask 15 k

theorem b1_fact : ∀ r : Fin 256, b1 r.val < 256 ∧ (r.val / 2 + 128 * 0 &&& 85) = (r.val / 2 &&& 85) ∧ (r.val / 2 + 128 * 1 &&& 85) = (r.val / 2 &&& 85) := by decide +kernel
theorem b2_fact : ∀ r : Fin 256, (r.val / 4 + 64 * 0 &&& 51) = (r.val / 4 &&& 51) ∧ (r.val / 4 + 64 * 1 &&& 51) = (r.val / 4 &&& 51) ∧ (r.val / 4 + 64 * 2 &&& 51) = (r.val / 4 &&& 51) ∧ (r.val / 4 + 64 * 3 &&& 51) = (r.val / 4 &&& 51) := by decide +kernel
theorem b21_fact : ∀ r : Fin 256, b2 (b1 r.val) < 256 ∧ b2 (b1 r.val) / 16 ≤ 4 ∧ b2 (b1 r.val) % 16 ≤ 4 := by decide +kernel
theorem p8_fact : ∀ r : Fin 256, p8 r.val = cntTo r.val 8 ∧ p8 r.val ≤ 8 := by decide +kernel

theorem s1_step (a k : Nat) : s1 a (k + 1) = 256 * s1 (a / 256) k + b1 (a % 256) := by
  have h1 : a / 2 = 256 * (a / 256 / 2) + (a % 256 / 2 + 128 * (a / 256 % 2)) := by omega
  have h2 : a = 256 * (a / 256) + a % 256 := by omega
  have f := b1_fact ⟨a % 256, Nat.mod_lt _ (by decide)⟩
  have e1 : (a / 2 &&& mask 85 (k + 1)) = 256 * (a / 256 / 2 &&& mask 85 k) + (a % 256 / 2 &&& 85) := by
    rw [h1, mask, and_split _ _ _ _ (by omega) (by decide)]
    rcases Nat.mod_two_eq_zero_or_one (a / 256) with h | h
    · rw [h, f.2.1]
    · rw [h, f.2.2]
  have e2 : (a &&& mask 85 (k + 1)) = 256 * (a / 256 &&& mask 85 k) + (a % 256 &&& 85) := by
    have := and_split (a / 256) (mask 85 k) (a % 256) 85 (by omega) (by decide)
    rw [← h2] at this
    exact this
  unfold s1 b1
  rw [e1, e2]
  omega

theorem s2_step (X r k : Nat) (hr : r < 256) : s2 (256 * X + r) (k + 1) = 256 * s2 X k + b2 r := by
  have h1 : (256 * X + r) / 4 = 256 * (X / 4) + (r / 4 + 64 * (X % 4)) := by omega
  have f := b2_fact ⟨r, hr⟩
  have e1 : ((256 * X + r) / 4 &&& mask 51 (k + 1)) = 256 * (X / 4 &&& mask 51 k) + (r / 4 &&& 51) := by
    rw [h1, mask, and_split _ _ _ _ (by omega) (by decide)]
    have h4 : X % 4 = 0 ∨ X % 4 = 1 ∨ X % 4 = 2 ∨ X % 4 = 3 := by omega
    rcases h4 with h | h | h | h
    · rw [h, f.1]
    · rw [h, f.2.1]
    · rw [h, f.2.2.1]
    · rw [h, f.2.2.2]
  have e2 : (256 * X + r &&& mask 51 (k + 1)) = 256 * (X &&& mask 51 k) + (r &&& 51) := by
    rw [mask, and_split _ _ _ _ hr (by decide)]
  unfold s2 b2
  rw [e1, e2]
  omega

theorem s3_step (X r k : Nat) (hr1 : r / 16 ≤ 4) (hr2 : r % 16 ≤ 4) (hX : X % 16 ≤ 4) : s3 (256 * X + r) (k + 1) = 256 * s3 X k + b3 r := by
  have h1 : (256 * X + r) / 16 + (256 * X + r) = 256 * (X / 16 + X) + (16 * (X % 16) + r / 16 + r) := by omega
  unfold s3 b3
  rw [h1, mask, and_split _ _ _ _ (by omega) (by decide)]
  have : (16 * (X % 16) + r / 16 + r) &&& 15 = (r / 16 + r) % 16 := by rw [nat_mask4]; omega
  rw [this]

/-- The bytes' counts, side by side. -/
def pk (a : Nat) : Nat → Nat
  | 0 => 0
  | k + 1 => 256 * pk (a / 256) k + p8 (a % 256)

theorem s21_low (a k : Nat) : s2 (s1 a k) k % 16 ≤ 4 := by
  cases k with
  | zero => simp [s2, mask]
  | succ k =>
    have f : b2 (b1 (a % 256)) % 16 ≤ 4 := (b21_fact ⟨a % 256, Nat.mod_lt _ (by decide)⟩).2.2
    have g : b1 (a % 256) < 256 := (b1_fact ⟨a % 256, Nat.mod_lt _ (by decide)⟩).1
    rw [s1_step, s2_step _ _ _ g]
    omega

theorem s321 (a k : Nat) : s3 (s2 (s1 a k) k) k = pk a k := by
  induction k generalizing a with
  | zero => simp [s3, mask, pk]
  | succ k ih =>
    have f := b21_fact ⟨a % 256, Nat.mod_lt _ (by decide)⟩
    have g := b1_fact ⟨a % 256, Nat.mod_lt _ (by decide)⟩
    rw [s1_step, s2_step _ _ _ g.1, s3_step _ _ _ f.2.1 f.2.2 (s21_low _ _), ih]
    rfl

theorem cnt8 (a : Nat) : cntTo a 8 = p8 (a % 256) := by
  have f := (p8_fact ⟨a % 256, Nat.mod_lt _ (by decide)⟩).1
  simp only at f
  rw [f]
  have h : ∀ i, i < 8 → (a % 256).testBit i = a.testBit i := by
    intro i hi
    rw [show (256 : Nat) = 2 ^ 8 from rfl, Nat.testBit_mod_two_pow]
    simp [hi]
  simp only [cntTo, h 0 (by decide), h 1 (by decide), h 2 (by decide), h 3 (by decide), h 4 (by decide), h 5 (by decide), h 6 (by decide), h 7 (by decide)]

theorem cnt_step (a n : Nat) : cntTo a (8 + n) = p8 (a % 256) + cntTo (a / 256) n := by
  rw [cntTo_add, cnt8]

theorem sum_a (X X1 X2 X3 c0 c1 c2 : Nat) (h0 : X = 256 * X1 + c0) (h1 : X1 = 256 * X2 + c1) (h2 : X2 = 256 * X3 + c2) (q0 : c0 ≤ 8) (q1 : c1 ≤ 8) (q2 : c2 ≤ 8) : (X + X1) / 65536 = X2 + X3 := by omega
theorem sum_b (X X1 X2 X3 X4 X5 X6 X7 l0 l1 l2 l3 : Nat) (h0 : X = 4294967296 * X4 + l0) (h1 : X1 = 4294967296 * X5 + l1) (h2 : X2 = 4294967296 * X6 + l2) (h3 : X3 = 4294967296 * X7 + l3)
    (q0 : l0 ≤ 200000000) (q1 : l1 ≤ 200000000) (q2 : l2 ≤ 200000000) (q3 : l3 ≤ 200000000) : (X + X1 + (X2 + X3)) / 4294967296 = X4 + X5 + X6 + X7 := by omega
theorem sum_c (X X1 X2 X3 X4 c0 c1 c2 c3 : Nat) (h0 : X = 256 * X1 + c0) (h1 : X1 = 256 * X2 + c1) (h2 : X2 = 256 * X3 + c2) (h3 : X3 = 256 * X4 + c3) : X = 4294967296 * X4 + (c0 + 256 * c1 + 65536 * c2 + 16777216 * c3) := by omega

/-- The sum of the eight bytes' counts. -/
theorem sum_all (X X1 X2 X3 X4 X5 X6 X7 c0 c1 c2 c3 c4 c5 c6 : Nat) (h0 : X = 256 * X1 + c0) (h1 : X1 = 256 * X2 + c1) (h2 : X2 = 256 * X3 + c2) (h3 : X3 = 256 * X4 + c3) (h4 : X4 = 256 * X5 + c4) (h5 : X5 = 256 * X6 + c5) (h6 : X6 = 256 * X7 + c6)
    (q0 : c0 ≤ 8) (q1 : c1 ≤ 8) (q2 : c2 ≤ 8) (q3 : c3 ≤ 8) (q4 : c4 ≤ 8) (q5 : c5 ≤ 8) (q6 : c6 ≤ 8) (q7 : X7 ≤ 8) :
    X ≤ 578721382704613384 ∧ ((X + X / 256) + (X + X / 256) / 65536 + ((X + X / 256) + (X + X / 256) / 65536) / 4294967296) % 128 = c0 + (c1 + (c2 + (c3 + (c4 + (c5 + (c6 + (X7 + 0))))))) := by
  have d1 : X / 256 = X1 := by clear h1 h2 h3 h4 h5 h6; omega
  have d2 := sum_a X X1 X2 X3 c0 c1 c2 h0 h1 h2 q0 q1 q2
  have g0 := sum_c X X1 X2 X3 X4 c0 c1 c2 c3 h0 h1 h2 h3
  have g1 := sum_c X1 X2 X3 X4 X5 c1 c2 c3 c4 h1 h2 h3 h4
  have g2 := sum_c X2 X3 X4 X5 X6 c2 c3 c4 c5 h2 h3 h4 h5
  have g3 := sum_c X3 X4 X5 X6 X7 c3 c4 c5 c6 h3 h4 h5 h6
  have d3 := sum_b X X1 X2 X3 X4 X5 X6 X7 _ _ _ _ g0 g1 g2 g3 (by omega) (by omega) (by omega) (by omega)
  have b4 : X4 ≤ 134744072 := by clear g0 g1 g2 g3 d1 d2 d3 h0 h1 h2 h3; omega
  refine ⟨by clear g1 g2 g3 d1 d2 d3 h0 h1 h2 h3 h4 h5 h6; omega, ?_⟩
  rw [d1, d2, d3]
  clear d1 d2 d3 g0 g1 g2 g3
  have : X + X1 + (X2 + X3) + (X4 + X5 + X6 + X7) = 128 * (2 * (X1 + X2 + X3 + X4 + X5 + X6 + X7)) + (c0 + (c1 + (c2 + (c3 + (c4 + (c5 + (c6 + (X7 + 0)))))))) := by omega
  rw [this]
  clear this h0 h1 h2 h3 h4 h5 h6
  omega

theorem pk_sum (a X : Nat) (hX : X = pk a 8) : X ≤ 578721382704613384 ∧
    ((X + X / 256) + (X + X / 256) / 65536 + ((X + X / 256) + (X + X / 256) / 65536) / 4294967296) % 128 = cnt a := by
  have hc : cnt a = cntTo a (8 + (8 + (8 + (8 + (8 + (8 + (8 + (8 + 0)))))))) := rfl
  rw [hc, cnt_step, cnt_step, cnt_step, cnt_step, cnt_step, cnt_step, cnt_step, cnt_step]
  have q : ∀ r, p8 (r % 256) ≤ 8 := fun r => (p8_fact ⟨r % 256, Nat.mod_lt _ (by decide)⟩).2
  have h7 : pk (a / 256 / 256 / 256 / 256 / 256 / 256 / 256) 1 = p8 (a / 256 / 256 / 256 / 256 / 256 / 256 / 256 % 256) := by simp [pk]
  have := sum_all X _ _ _ _ _ _ _ _ _ _ _ _ _ _ hX (show pk (a / 256) 7 = _ from rfl) (show pk (a / 256 / 256) 6 = _ from rfl) (show pk (a / 256 / 256 / 256) 5 = _ from rfl) (show pk (a / 256 / 256 / 256 / 256) 4 = _ from rfl) (show pk (a / 256 / 256 / 256 / 256 / 256) 3 = _ from rfl) (show pk (a / 256 / 256 / 256 / 256 / 256 / 256) 2 = _ from rfl) (q _) (q _) (q _) (q _) (q _) (q _) (q _) (by rw [h7]; exact q _)
  rw [h7] at this
  exact this

theorem mask85 : mask 85 8 = 6148914691236517205 := by decide
theorem mask51 : mask 51 8 = 3689348814741910323 := by decide
theorem mask15 : mask 15 8 = 1085102592571150095 := by decide

end Go.Proofs.YtjjhfmiegoohlaaDoor
