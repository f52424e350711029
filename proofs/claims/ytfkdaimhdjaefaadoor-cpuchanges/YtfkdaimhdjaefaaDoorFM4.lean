/- Binary64: quotients in closed form; ones, zeros, differences. -/
import Derived.Test.YtfkdaimhdjaefaaDoorFM3
namespace Go.Proofs.YtfkdaimhdjaefaaDoor.Flt
open Ieee

/-- What is kept of a quotient q, of which something is left (s), without its last d bits. -/
def keep (q : Nat) (s : Bool) (d : Nat) : Nat :=
  q / 2 ^ d + (decide (2 ^ d < 2 * (q % 2 ^ d)) || (2 ^ d == 2 * (q % 2 ^ d) && (s || q / 2 ^ d % 2 == 1))).toNat

theorem rhe_keep (N n d : Nat) (hn : 0 < n) (hd : 0 < d) : rhe N (n * 2 ^ d) = keep (N / n) (N % n != 0) d := by
  unfold rhe keep
  obtain ⟨c, rfl⟩ : ∃ c, d = c + 1 := ⟨d - 1, by omega⟩
  have hp : 2 ^ (c + 1) = 2 * 2 ^ c := by rw [Nat.pow_succ, Nat.mul_comm]
  rw [hp]
  obtain ⟨G, hG⟩ : ∃ G, G = 2 ^ c := ⟨_, rfl⟩
  have hG0 : 0 < G := by rw [hG]; exact Nat.two_pow_pos c
  rw [← hG]
  rw [← Nat.div_div_eq_div_mul]
  have hmod : N % (n * (2 * G)) = n * (N / n % (2 * G)) + N % n := by
    rw [Nat.mod_mul, Nat.add_comm]
  rw [hmod]
  obtain ⟨Q, hQ⟩ : ∃ Q, Q = N / n := ⟨_, rfl⟩
  obtain ⟨m, hm⟩ : ∃ m, m = Q % (2 * G) := ⟨_, rfl⟩
  obtain ⟨r, hr⟩ : ∃ r, r = N % n := ⟨_, rfl⟩
  have hrn : r < n := by rw [hr]; exact Nat.mod_lt _ hn
  rw [← hQ, ← hm, ← hr]
  congr 2
  have e1 : n * (2 * G) = 2 * (n * G) := by rw [Nat.mul_left_comm]
  have e2 : 2 * (n * m + r) = 2 * (n * m) + 2 * r := by omega
  rw [e1, e2]
  rcases Nat.lt_trichotomy m G with h | h | h
  · -- below
    have hle : n * m + n ≤ n * G := by
      have : n * (m + 1) ≤ n * G := Nat.mul_le_mul_left n h
      rw [Nat.mul_add, Nat.mul_one] at this; exact this
    have a1 : decide (2 * (n * G) < 2 * (n * m) + 2 * r) = false := by simp; omega
    have a2 : (2 * (n * G) == 2 * (n * m) + 2 * r) = false := by simp; omega
    have a3 : decide (2 * G < 2 * m) = false := by simp; omega
    have a4 : (2 * G == 2 * m) = false := by simp; omega
    rw [a1, a2, a3, a4]; rfl
  · subst h
    by_cases hr0 : r = 0
    · rw [hr0]
      have a1 : decide (2 * (n * m) < 2 * (n * m) + 2 * 0) = false := by simp
      have a2 : (2 * (n * m) == 2 * (n * m) + 2 * 0) = true := by simp
      have a3 : decide (2 * m < 2 * m) = false := by simp
      have a4 : (2 * m == 2 * m) = true := by simp
      rw [a1, a2, a3, a4]; simp
    · have a1 : decide (2 * (n * m) < 2 * (n * m) + 2 * r) = true := by simp; omega
      have a2 : (2 * m == 2 * m) = true := by simp
      have a3 : (r != 0) = true := by simp; omega
      rw [a1, a2, a3]; simp
  · have hlt : n * G < n * m := Nat.mul_lt_mul_of_pos_left h hn
    have a1 : decide (2 * (n * G) < 2 * (n * m) + 2 * r) = true := by simp; omega
    have a3 : decide (2 * G < 2 * m) = true := by simp; omega
    rw [a1, a3]; rfl

/-- The quotient, doubled, with what is left as its last bit, is rounded as the quotient is. -/
theorem rn_sticky (N n a b : Nat) (hn : 0 < n) (hq : 2 ^ 53 ≤ N / n) :
    rn ((2 * (N / n) + (N % n != 0).toNat) * 2 ^ a) (2 * 2 ^ b) = rn (N * 2 ^ a) (n * 2 ^ b) := by
  obtain ⟨Q, hQ⟩ : ∃ Q, Q = N / n := ⟨_, rfl⟩
  obtain ⟨s, hs⟩ : ∃ s, s = (N % n != 0) := ⟨_, rfl⟩
  have hs1 : s.toNat ≤ 1 := by cases s <;> simp
  have hN : N = n * Q + N % n := by rw [hQ]; exact (Nat.div_add_mod N n).symm
  have hr : N % n < n := Nat.mod_lt _ hn
  have hN0 : N ≠ 0 := by
    intro h; rw [h, Nat.zero_div] at hq
    have := Nat.two_pow_pos 53; omega
  have hM2 : (2 * Q + s.toNat) / 2 = Q := by omega
  have hM3 : ((2 * Q + s.toNat) % 2 != 0) = s := by
    cases s
    · simp
    · have : (2 * Q + Bool.toNat true) % 2 = 1 := by simp only [Bool.toNat_true]; omega
      rw [this]; rfl
  rw [← hQ, ← hs]
  unfold rn
  have p1 : (2 * Q + s.toNat) * 2 ^ a ≠ 0 := Nat.mul_ne_zero (by rw [← hQ] at hq; have := Nat.two_pow_pos 53; omega) (by have := Nat.two_pow_pos a; omega)
  have p2 : N * 2 ^ a ≠ 0 := Nat.mul_ne_zero hN0 (by have := Nat.two_pow_pos a; omega)
  rw [if_neg p1, if_neg p2]
  -- the same number of bits
  have hlog : ((2 * Q + s.toNat) * 2 ^ a / (2 * 2 ^ b)).log2 = (N * 2 ^ a / (n * 2 ^ b)).log2 ∧ a + 1 ≤ b + ((N * 2 ^ a / (n * 2 ^ b)).log2 - 52) := by
    rw [← hQ] at hq
    have hQ0 : Q ≠ 0 := by have := Nat.two_pow_pos 53; omega
    have hql : 53 ≤ Q.log2 := (Nat.le_log2 hQ0).2 hq
    by_cases hab : a < b
    · obtain ⟨c, rfl⟩ : ∃ c, b = c + a := ⟨b - a, by omega⟩
      have g1 : (2 * Q + s.toNat) * 2 ^ a / (2 * 2 ^ (c + a)) = Q / 2 ^ c := by
        rw [pow_add' c a, ← Nat.mul_assoc, Nat.mul_div_mul_right _ _ (Nat.two_pow_pos a), ← Nat.div_div_eq_div_mul, hM2]
      have g2 : N * 2 ^ a / (n * 2 ^ (c + a)) = Q / 2 ^ c := by
        rw [pow_add' c a, ← Nat.mul_assoc, Nat.mul_div_mul_right _ _ (Nat.two_pow_pos a), ← Nat.div_div_eq_div_mul, ← hQ]
      rw [g1, g2]
      exact ⟨rfl, by omega⟩
    · obtain ⟨c, rfl⟩ : ∃ c, a = c + b := ⟨a - b, by omega⟩
      have hc : 0 < 2 ^ c := Nat.two_pow_pos c
      have g1 : (2 * Q + s.toNat) * 2 ^ (c + b) / (2 * 2 ^ b) = (2 * Q + s.toNat) * 2 ^ c / 2 := by
        rw [pow_add' c b, ← Nat.mul_assoc, Nat.mul_div_mul_right _ _ (Nat.two_pow_pos b)]
      have g2 : N * 2 ^ (c + b) / (n * 2 ^ b) = N * 2 ^ c / n := by
        rw [pow_add' c b, ← Nat.mul_assoc, Nat.mul_div_mul_right _ _ (Nat.two_pow_pos b)]
      have hup : (Q + 1) * 2 ^ c ≤ 2 ^ (Q.log2 + c + 1) := by
        have : Q.log2 + c + 1 = (Q.log2 + 1) + c := by omega
        rw [this, pow_add']
        exact Nat.mul_le_mul_right _ Nat.lt_log2_self
      have hlow : 2 ^ (Q.log2 + c) ≤ Q * 2 ^ c := by
        rw [pow_add']; exact Nat.mul_le_mul_right _ (Nat.log2_self_le hQ0)
      have k1 : ((2 * Q + s.toNat) * 2 ^ c / 2).log2 = Q.log2 + c := by
        have l1 : Q * 2 ^ c ≤ (2 * Q + s.toNat) * 2 ^ c / 2 := by
          rw [Nat.le_div_iff_mul_le (by decide)]
          have : Q * 2 ^ c * 2 = 2 * Q * 2 ^ c := by rw [Nat.mul_comm (Q * 2 ^ c), Nat.mul_assoc]
          rw [this]; exact Nat.mul_le_mul_right _ (by omega)
        have l2 : (2 * Q + s.toNat) * 2 ^ c / 2 < (Q + 1) * 2 ^ c := by
          rw [Nat.div_lt_iff_lt_mul (by decide)]
          have : (Q + 1) * 2 ^ c * 2 = (2 * Q + 2) * 2 ^ c := by rw [Nat.mul_comm ((Q + 1) * 2 ^ c), ← Nat.mul_assoc, Nat.mul_add, Nat.mul_one]
          rw [this]; exact Nat.mul_lt_mul_of_pos_right (by omega) hc
        have h0 : (2 * Q + s.toNat) * 2 ^ c / 2 ≠ 0 := by have := Nat.two_pow_pos (Q.log2 + c); omega
        exact (Nat.log2_eq_iff h0).2 ⟨by omega, by omega⟩
      have k2 : (N * 2 ^ c / n).log2 = Q.log2 + c := by
        have l1 : Q * 2 ^ c ≤ N * 2 ^ c / n := by
          rw [Nat.le_div_iff_mul_le hn, Nat.mul_right_comm]
          apply Nat.mul_le_mul_right
          rw [Nat.mul_comm]; omega
        have l2 : N * 2 ^ c / n < (Q + 1) * 2 ^ c := by
          rw [Nat.div_lt_iff_lt_mul hn, Nat.mul_right_comm]
          apply Nat.mul_lt_mul_of_pos_right _ hc
          rw [Nat.mul_comm, Nat.mul_add, Nat.mul_one]; omega
        have h0 : N * 2 ^ c / n ≠ 0 := by have := Nat.two_pow_pos (Q.log2 + c); omega
        exact (Nat.log2_eq_iff h0).2 ⟨by omega, by omega⟩
      rw [g1, g2, k1, k2]
      exact ⟨rfl, by omega⟩
  obtain ⟨h1, h2⟩ := hlog
  rw [h1]
  obtain ⟨t, ht⟩ : ∃ t, t = (N * 2 ^ a / (n * 2 ^ b)).log2 - 52 := ⟨_, rfl⟩
  rw [← ht] at h2 ⊢
  obtain ⟨d, hd⟩ : ∃ d, b + t = d + a := ⟨b + t - a, by omega⟩
  have e1 : 2 * 2 ^ b * 2 ^ t = 2 * 2 ^ d * 2 ^ a := by rw [Nat.mul_assoc, ← pow_add', hd, pow_add', Nat.mul_assoc]
  have e2 : n * 2 ^ b * 2 ^ t = n * 2 ^ d * 2 ^ a := by rw [Nat.mul_assoc, ← pow_add', hd, pow_add', Nat.mul_assoc]
  rw [e1, e2, rhe_scale _ _ _ (Nat.two_pow_pos a), rhe_scale _ _ _ (Nat.two_pow_pos a)]
  rw [rhe_keep _ 2 d (by decide) (by omega), rhe_keep _ n d hn (by omega), hM2, hM3, ← hQ, ← hs]

theorem div_key (m n e f : Nat) (hmb : m < 2 ^ 53) (hn0 : n ≠ 0) (s : Bool) :
    double.nearest s (2 * (m <<< (52 + 2 + n.log2 - m.log2) / n) + (m <<< (52 + 2 + n.log2 - m.log2) % n != 0).toNat)
      (-1074 + (e : Int) - (-1074 + (f : Int)) - ((52 + 2 + n.log2 - m.log2 : Nat) : Int) - 1) =
    double.word s (rn (m * 2 ^ e * 2 ^ unit) (n * 2 ^ f)) := by
  rw [nearest_rn]
  by_cases hm0 : m = 0
  · subst hm0
    simp [rn_zero]
  · have hml := log2_lt53 m hmb
    obtain ⟨w, hw⟩ : ∃ w, w = 52 + 2 + n.log2 - m.log2 := ⟨_, rfl⟩
    rw [← hw]
    have hT : unit = 1074 := rfl
    have hq : 2 ^ 53 ≤ m <<< w / n := by
      rw [Nat.shiftLeft_eq, Nat.le_div_iff_mul_le (by omega)]
      have h1 : n < 2 ^ (n.log2 + 1) := Nat.lt_log2_self
      have h2 : 2 ^ m.log2 ≤ m := Nat.log2_self_le hm0
      have h3 : 2 ^ m.log2 * 2 ^ w ≤ m * 2 ^ w := Nat.mul_le_mul_right _ h2
      have h4 : m.log2 + w = 53 + (n.log2 + 1) := by omega
      rw [← pow_add', h4, pow_add'] at h3
      have h5 : 2 ^ 53 * n ≤ 2 ^ 53 * 2 ^ (n.log2 + 1) := Nat.mul_le_mul_left _ (Nat.le_of_lt h1)
      exact Nat.le_trans h5 h3
    obtain ⟨a, ha⟩ : ∃ a, a = (-1074 + (e : Int) - (-1074 + (f : Int)) - (w : Int) - 1 + 1074).toNat := ⟨_, rfl⟩
    obtain ⟨b, hb⟩ : ∃ b, b = (-(-1074 + (e : Int) - (-1074 + (f : Int)) - (w : Int) - 1 + 1074)).toNat := ⟨_, rfl⟩
    rw [← ha, ← hb]
    have hE : e + unit + b = a + f + w + 1 := by omega
    refine congrArg (double.word s) ?_
    rw [← rn_scale _ (2 ^ b) 2 (by decide)]
    have g1 : (2 * (m <<< w / n) + (m <<< w % n != 0).toNat) * 2 ^ a * 2 = (2 * (m <<< w / n) + (m <<< w % n != 0).toNat) * 2 ^ (a + 1) := by
      rw [Nat.mul_assoc, ← Nat.pow_succ]
    rw [g1, Nat.mul_comm (2 ^ b) 2, rn_sticky _ n (a + 1) b (by omega) hq, Nat.shiftLeft_eq]
    -- m 2^w 2^(a+1) / (n 2^b) = m 2^e 2^unit / (n 2^f)
    have k1 := rn_scale (m * 2 ^ w * 2 ^ (a + 1)) (n * 2 ^ b) (2 ^ f) (Nat.two_pow_pos f)
    have k2 := rn_scale (m * 2 ^ e * 2 ^ unit) (n * 2 ^ f) (2 ^ b) (Nat.two_pow_pos b)
    rw [← k1, ← k2]
    have q1 : m * 2 ^ w * 2 ^ (a + 1) * 2 ^ f = m * 2 ^ (w + (a + 1) + f) := by rw [pow_add' (w + (a + 1)) f, pow_add' w (a + 1)]; simp only [Nat.mul_assoc]
    have q2 : m * 2 ^ e * 2 ^ unit * 2 ^ b = m * 2 ^ (e + unit + b) := by rw [pow_add', pow_add']; simp only [Nat.mul_assoc]
    have q3 : n * 2 ^ b * 2 ^ f = n * 2 ^ f * 2 ^ b := Nat.mul_right_comm _ _ _
    have q4 : w + (a + 1) + f = e + unit + b := by omega
    rw [q1, q2, q3, q4]

theorem div_fin (x y : Nat) (hx : rungOf x < INF) (hy : rungOf y < INF) (hy0 : rungOf y ≠ 0) :
    double.div x y = some (double.word (negOf x ^^ negOf y) (rn (V (rungOf x) * 2 ^ unit) (V (rungOf y)))) := by
  unfold Format.div
  rw [read_fin x hx, read_fin y hy]
  have hn0 : magOf (rungOf y) ≠ 0 := by obtain ⟨a, b, c⟩ := rung_pack (rungOf y); omega
  obtain ⟨-, hmb, -⟩ := rung_pack (rungOf x)
  simp only [Datum.quotient, if_neg hn0, Option.map]
  exact congrArg some (div_key (magOf (rungOf x)) (magOf (rungOf y)) (expOf (rungOf x)) (expOf (rungOf y)) hmb hn0 (negOf x ^^ negOf y))

theorem div_inf (x y : Nat) (hx : rungOf x = INF) (hy : rungOf y < INF) : double.div x y = some (double.word (negOf x ^^ negOf y) INF) := by
  unfold Format.div
  rw [read_inf x hx, read_fin y hy]; rfl
theorem div_infs (x y : Nat) (hx : rungOf x = INF) (hy : rungOf y = INF) : double.div x y = none := by
  unfold Format.div
  rw [read_inf x hx, read_inf y hy]; rfl
theorem div_by_inf (x y : Nat) (hx : rungOf x < INF) (hy : rungOf y = INF) : double.div x y = some (double.word (negOf x ^^ negOf y) 0) := by
  unfold Format.div
  rw [read_fin x hx, read_inf y hy]; rfl
theorem div_by_zero (x y : Nat) (hx : rungOf x < INF) (hx0 : rungOf x ≠ 0) (hy : rungOf y = 0) : double.div x y = some (double.word (negOf x ^^ negOf y) INF) := by
  unfold Format.div
  have hm0 : magOf (rungOf x) ≠ 0 := by obtain ⟨a, b, c⟩ := rung_pack (rungOf x); omega
  rw [read_fin x hx, read_fin y (by rw [hy]; decide), hy]
  have : magOf 0 = 0 := rfl
  simp only [this, Datum.quotient, if_neg hm0, if_true]
  rfl
theorem div_zeros (x y : Nat) (hx : rungOf x = 0) (hy : rungOf y = 0) : double.div x y = none := by
  unfold Format.div
  rw [read_fin x (by rw [hx]; decide), read_fin y (by rw [hy]; decide), hy, hx]
  rfl

/-- No result is a NaN. -/
theorem word_fine (s : Bool) (r : Nat) (h : r ≤ INF) : rungOf (double.word s r) ≤ INF ∧ double.word s r < 2 ^ 64 := by
  have hI : INF = 2047 * 2 ^ 52 := rfl
  rw [rungOf_word s r (by omega)]
  refine ⟨h, ?_⟩
  rw [word_eq]; split <;> omega

theorem write_fine (d : Datum) (h : d.isNaN = false) : rungOf (double.write d) ≤ INF ∧ double.write d < 2 ^ 64 := by
  cases d with
  | number s m p =>
    show rungOf (double.nearest s m p) ≤ INF ∧ double.nearest s m p < 2 ^ 64
    rw [nearest_rn]; exact word_fine _ _ (rn_le _ _)
  | infinity s => exact word_fine s INF (Nat.le_refl _)
  | nan s t => cases h

theorem map_fine (o : Option Datum) (h : ∀ d, o = some d → d.isNaN = false) (r : Nat) (hr : o.map double.write = some r) : rungOf r ≤ INF ∧ r < 2 ^ 64 := by
  cases o with
  | none => cases hr
  | some d => cases hr; exact write_fine d (h d rfl)

theorem sum_notnan (a b d : Datum) (h : a.sum b = some d) : d.isNaN = false := by
  cases a <;> cases b <;> simp only [Datum.sum] at h <;> first | (cases h; done) | (cases h; rfl) | skip
  · split at h <;> cases h; rfl
theorem product_notnan (a b d : Datum) (h : a.product b = some d) : d.isNaN = false := by
  cases a <;> cases b <;> simp only [Datum.product] at h <;> first | (cases h; done) | (cases h; rfl) | skip
  · split at h <;> cases h; rfl
  · split at h <;> cases h; rfl
theorem quotient_notnan (k : Nat) (a b d : Datum) (h : a.quotient k b = some d) : d.isNaN = false := by
  cases a <;> cases b <;> simp only [Datum.quotient] at h <;> first | (cases h; done) | (cases h; rfl) | skip
  · split at h
    · split at h <;> cases h; rfl
    · cases h; rfl

theorem add_fine (x y r : Nat) (h : double.add x y = some r) : rungOf r ≤ INF ∧ r < 2 ^ 64 := map_fine _ (sum_notnan _ _) r h
theorem sub_fine (x y r : Nat) (h : double.sub x y = some r) : rungOf r ≤ INF ∧ r < 2 ^ 64 := map_fine _ (sum_notnan _ _) r h
theorem mul_fine (x y r : Nat) (h : double.mul x y = some r) : rungOf r ≤ INF ∧ r < 2 ^ 64 := map_fine _ (product_notnan _ _) r h
theorem div_fine (x y r : Nat) (h : double.div x y = some r) : rungOf r ≤ INF ∧ r < 2 ^ 64 := map_fine _ (quotient_notnan _ _ _) r h
end Go.Proofs.YtfkdaimhdjaefaaDoor.Flt
