/- Binary64: what a rung is worth, and rounding to a rung, over whole numbers. -/
import Derived.Laws.FloatArith
namespace Go.Proofs.YthnjeejnnhadeaaGreatDoor.Flt
open Ieee
def rhe (n g : Nat) : Nat := n / g + (decide (g < 2 * (n % g)) || (g == 2 * (n % g) && n / g % 2 == 1)).toNat
theorem rhe_scale (n g c : Nat) (hc : 0 < c) : rhe (n * c) (g * c) = rhe n g := by
 unfold rhe
 rw [Nat.mul_div_mul_right n g hc, Nat.mul_mod_mul_right]
 congr 1
 have h1 : decide (g * c < 2 * (n % g * c)) = decide (g < 2 * (n % g)) := by
  rw [← Nat.mul_assoc]
  exact decide_eq_decide.2 (Nat.mul_lt_mul_right hc)
 have h2 : (g * c == 2 * (n % g * c)) = (g == 2 * (n % g)) := by
  rw [← Nat.mul_assoc, Bool.eq_iff_iff, beq_iff_eq, beq_iff_eq]
  exact ⟨fun h => Nat.eq_of_mul_eq_mul_right hc h, fun h => by rw [← h]⟩
 rw [h1, h2]
theorem rhe_one (n : Nat) : rhe n 1 = n := by
 unfold rhe
 simp [Nat.mod_one]
theorem rhe_exact (n g : Nat) (hg : 0 < g) : rhe (n * g) g = n := by
 have := rhe_scale n 1 g hg
 rw [Nat.one_mul] at this
 rw [this, rhe_one]
theorem rhe_small (n g : Nat) (h : 2 * n < g) : rhe n g = 0 := by
 unfold rhe
 have h1 : n / g = 0 := Nat.div_eq_of_lt (by omega)
 have h2 : n % g = n := Nat.mod_eq_of_lt (by omega)
 rw [h1, h2]
 have h3 : decide (g < 2 * n) = false := by simp; omega
 have h4 : (g == 2 * n) = false := by simp; omega
 rw [h3, h4]; rfl
theorem cut_even (neg : Bool) (n d : Nat) : Toward.even.cut neg n d = rhe n (2 ^ d) := by
 unfold Toward.cut
 by_cases h : d ≤ n.log2 + 2
 ·simp only [Nat.min_eq_left h, Nat.one_shiftLeft]
  rfl
 ·have hl : n < 2 ^ (n.log2 + 1) := Nat.lt_log2_self
  have h1 : min d (n.log2 + 2) = n.log2 + 2 := Nat.min_eq_right (by omega)
  have hp : 2 ^ (n.log2 + 2) = 2 * 2 ^ (n.log2 + 1) := by rw [Nat.pow_succ 2 (n.log2 + 1), Nat.mul_comm]
  have hs : 2 * n < 2 ^ d := by
   have : 2 ^ (n.log2 + 2) ≤ 2 ^ d := Nat.pow_le_pow_right (by decide) (by omega)
   omega
  rw [rhe_small n _ hs]
  simp only [h1, Nat.one_shiftLeft]
  exact rhe_small n _ (by omega)
def rn (A B : Nat) : Nat :=
 if A = 0 then 0 else min (((A / B).log2 - 52) * 2 ^ 52 + rhe A (B * 2 ^ ((A / B).log2 - 52))) (2047 * 2 ^ 52)
theorem pow_add' (a b : Nat) : 2 ^ (a + b) = 2 ^ a * 2 ^ b := Nat.pow_add 2 a b
theorem log2_mul_pow (m k : Nat) (h : m ≠ 0) : (m * 2 ^ k).log2 = m.log2 + k := by
 have hp : 0 < 2 ^ k := Nat.two_pow_pos k
 have h0 : m * 2 ^ k ≠ 0 := Nat.mul_ne_zero h (by omega)
 refine (Nat.log2_eq_iff h0).2 ⟨?_, ?_⟩
 ·rw [pow_add']; exact Nat.mul_le_mul_right _ (Nat.log2_self_le h)
 ·have : m.log2 + k + 1 = (m.log2 + 1) + k := by omega
  rw [this, pow_add']
  exact Nat.mul_lt_mul_of_pos_right Nat.lt_log2_self hp
theorem log2_div_pow (m k : Nat) (h : k ≤ m.log2) (h0 : m ≠ 0) : (m / 2 ^ k).log2 = m.log2 - k := by
 have hp : 0 < 2 ^ k := Nat.two_pow_pos k
 have e : m.log2 = (m.log2 - k) + k := by omega
 have hlo : 2 ^ (m.log2 - k) ≤ m / 2 ^ k := by
  rw [Nat.le_div_iff_mul_le hp, ← pow_add', ← e]
  exact Nat.log2_self_le h0
 have hn : m / 2 ^ k ≠ 0 := by have := Nat.two_pow_pos (m.log2 - k); omega
 refine (Nat.log2_eq_iff hn).2 ⟨hlo, ?_⟩
 rw [Nat.div_lt_iff_lt_mul hp, ← pow_add']
 have : m.log2 - k + 1 + k = m.log2 + 1 := by omega
 rw [this]
 exact Nat.lt_log2_self
theorem nearest_rn (neg : Bool) (mag : Nat) (place : Int) :
    double.nearest neg mag place = double.word neg (rn (mag * 2 ^ (place + 1074).toNat) (2 ^ (-(place + 1074)).toNat)) := by
  unfold Format.nearest
  by_cases h0 : mag = 0
  · subst h0; rw [if_pos rfl, Nat.zero_mul]; rfl
  · rw [if_neg h0]
    have hp : mag * 2 ^ (place + 1074).toNat ≠ 0 := Nat.mul_ne_zero h0 (by have := Nat.two_pow_pos (place + 1074).toNat; omega)
    unfold rn
    rw [if_neg hp]
    have hl : double.leastPlace = -1074 := by decide
    have hf : double.fractionBits = 52 := rfl
    have hb : double.binade = 2 ^ 52 := rfl
    have hi : double.infRung = 2047 * 2 ^ 52 := by decide
    simp only [hl, hf, hb, hi, cut_even]
    have key : ∀ T : Nat, (max (place + (mag.log2 : Int) - (52 : Nat)) (-1074) - -1074).toNat = T →
        ((mag * 2 ^ (place + 1074).toNat) / (2 ^ (-(place + 1074)).toNat)).log2 - 52 = T ∧
        rhe (mag <<< (place - max (place + (mag.log2 : Int) - (52 : Nat)) (-1074)).toNat) (2 ^ (max (place + (mag.log2 : Int) - (52 : Nat)) (-1074) - place).toNat) =
        rhe (mag * 2 ^ (place + 1074).toNat) (2 ^ (-(place + 1074)).toNat * 2 ^ T) := by
      intro T hT
      obtain ⟨L, hL⟩ : ∃ L, L = max (place + (mag.log2 : Int) - (52 : Nat)) (-1074) := ⟨_, rfl⟩
      rw [← hL] at hT ⊢
      have hLT : L = (T : Int) - 1074 := by omega
      constructor
      · by_cases hz : 0 ≤ place + 1074
        · have : (-(place + 1074)).toNat = 0 := by omega
          rw [this, Nat.pow_zero, Nat.div_one, log2_mul_pow _ _ h0]
          omega
        · have : (place + 1074).toNat = 0 := by omega
          rw [this, Nat.pow_zero, Nat.mul_one]
          by_cases hk : (-(place + 1074)).toNat ≤ mag.log2
          · rw [log2_div_pow _ _ hk h0]; omega
          · have hlt : mag / 2 ^ (-(place + 1074)).toNat = 0 := by
              apply Nat.div_eq_of_lt
              have h1 : mag < 2 ^ (mag.log2 + 1) := Nat.lt_log2_self
              have h2 : 2 ^ (mag.log2 + 1) ≤ 2 ^ (-(place + 1074)).toNat := Nat.pow_le_pow_right (by decide) (by omega)
              omega
            rw [hlt]
            have : Nat.log2 0 = 0 := by decide
            rw [this]; omega
      · rw [Nat.shiftLeft_eq, ← pow_add']
        obtain ⟨a, ha⟩ : ∃ a, a = (place + 1074).toNat := ⟨_, rfl⟩
        obtain ⟨b, hb⟩ : ∃ b, b = (-(place + 1074)).toNat := ⟨_, rfl⟩
        obtain ⟨u, hu⟩ : ∃ u, u = (place - L).toNat := ⟨_, rfl⟩
        obtain ⟨d, hd⟩ : ∃ d, d = (L - place).toNat := ⟨_, rfl⟩
        rw [← ha, ← hb, ← hu, ← hd]
        -- u + (b + T) = a + d
        have hs : u + (b + T) = a + d := by omega
        by_cases hud : u = 0
        · have : a + (d - (b + T)) + 0 = a + (d - (b + T)) := rfl
          subst hud
          rw [Nat.pow_zero, Nat.mul_one]
          have h3 : b + T = d + a := by omega
          rw [h3, pow_add' d a, rhe_scale _ _ _ (Nat.two_pow_pos a)]
        · have hd0 : d = 0 := by omega
          subst hd0
          have h3 : a = u + (b + T) := by omega
          rw [h3, pow_add' u (b + T), ← Nat.mul_assoc, Nat.pow_zero, rhe_one, rhe_exact _ _ (Nat.two_pow_pos (b + T))]
    obtain ⟨k1, k2⟩ := key _ rfl
    rw [k1, k2]
end Go.Proofs.YthnjeejnnhadeaaGreatDoor.Flt

namespace Go.Proofs.YthnjeejnnhadeaaGreatDoor.Flt
open Ieee
def magOf (r : Nat) : Nat := if r < 2 ^ 52 then r else 2 ^ 52 + r % 2 ^ 52
def expOf (r : Nat) : Nat := if r < 2 ^ 52 then 0 else r / 2 ^ 52 - 1
def V (r : Nat) : Nat := magOf r * 2 ^ expOf r
def negOf (x : Nat) : Bool := x / 2 ^ 63 % 2 == 1
def rungOf (x : Nat) : Nat := x % 2 ^ 63
theorem read_eq (x : Nat) : double.read x =
  if rungOf x < 2047 * 2 ^ 52 then .number (negOf x) (magOf (rungOf x)) (-1074 + expOf (rungOf x))
  else if rungOf x = 2047 * 2 ^ 52 then .infinity (negOf x) else .nan (negOf x) (rungOf x - 2047 * 2 ^ 52) := by
 have hs : double.signWeight = 2 ^ 63 := rfl
 have hb : double.binade = 2 ^ 52 := rfl
 have hi : double.infRung = 2047 * 2 ^ 52 := by decide
 have hl : double.leastPlace = -1074 := by decide
 unfold Format.read
 simp only [hs, hb, hi, hl]
 change (if rungOf x < 2 ^ 52 then Datum.number (negOf x) (rungOf x) (-1074) else if rungOf x < 2047 * 2 ^ 52 then Datum.number (negOf x) (2 ^ 52 + rungOf x % 2 ^ 52) (-1074 + ((rungOf x / 2 ^ 52 - 1 : Nat) : Int)) else if rungOf x = 2047 * 2 ^ 52 then Datum.infinity (negOf x) else Datum.nan (negOf x) (rungOf x - 2047 * 2 ^ 52)) = _
 by_cases h1 : rungOf x < 2 ^ 52
 ·have h2 : rungOf x < 2047 * 2 ^ 52 := by omega
  rw [if_pos h1, if_pos h2]
  simp [magOf, expOf, h1]
 ·rw [if_neg h1]
  by_cases h2 : rungOf x < 2047 * 2 ^ 52
  ·rw [if_pos h2, if_pos h2]
   simp only [magOf, expOf, if_neg h1]
  ·rw [if_neg h2, if_neg h2]
theorem word_eq (neg : Bool) (r : Nat) : double.word neg r = if neg then 2 ^ 63 + r else r := rfl
theorem negOf_word (neg : Bool) (r : Nat) (h : r < 2 ^ 63) : negOf (double.word neg r) = neg := by
 rw [word_eq]; unfold negOf
 cases neg
 ·have : r / 2 ^ 63 = 0 := Nat.div_eq_of_lt h
  simp [this]
 ·have : (2 ^ 63 + r) / 2 ^ 63 = 1 := by omega
  simp [this]
theorem rungOf_word (neg : Bool) (r : Nat) (h : r < 2 ^ 63) : rungOf (double.word neg r) = r := by
 rw [word_eq]; unfold rungOf
 cases neg
 ·exact Nat.mod_eq_of_lt h
 ·simp only [if_true]; omega
theorem rn_le (A B : Nat) : rn A B ≤ 2047 * 2 ^ 52 := by
 unfold rn
 split
 ·omega
 ·exact Nat.min_le_right _ _
theorem rn_lt (A B : Nat) : rn A B < 2 ^ 63 := by have := rn_le A B; omega
theorem rung_pack (r : Nat) : r = expOf r * 2 ^ 52 + magOf r ∧ magOf r < 2 ^ 53 ∧ (expOf r = 0 ∨ 2 ^ 52 ≤ magOf r) := by
 unfold magOf expOf
 split <;> omega
theorem V_pos (r : Nat) (h : 0 < r) : 0 < V r := by
 obtain ⟨a, b, c⟩ := rung_pack r
 unfold V
 exact Nat.mul_pos (by omega) (Nat.two_pow_pos _)
theorem V_lt (a b : Nat) (h : a < b) : V a < V b := by
 obtain ⟨a1, a2, a3⟩ := rung_pack a
 obtain ⟨b1, b2, b3⟩ := rung_pack b
 unfold V
 by_cases he : expOf a = expOf b
 ·rw [he]
  exact Nat.mul_lt_mul_of_pos_right (by omega) (Nat.two_pow_pos _)
 ·have hlt : expOf a < expOf b := by omega
  have h1 : magOf a * 2 ^ expOf a < 2 ^ 53 * 2 ^ expOf a := Nat.mul_lt_mul_of_pos_right a2 (Nat.two_pow_pos _)
  have h2 : 2 ^ 53 * 2 ^ expOf a ≤ 2 ^ 52 * 2 ^ expOf b := by
   rw [← pow_add', ← pow_add']
   exact Nat.pow_le_pow_right (by decide) (by omega)
  have h3 : 2 ^ 52 * 2 ^ expOf b ≤ magOf b * 2 ^ expOf b := Nat.mul_le_mul_right _ (by omega)
  omega
end Go.Proofs.YthnjeejnnhadeaaGreatDoor.Flt

namespace Go.Proofs.YthnjeejnnhadeaaGreatDoor.Flt
open Ieee
def INF : Nat := 2047 * 2 ^ 52
def unit : Nat := 1074
def K (x : Nat) : Int := if negOf x then -(V (rungOf x) : Int) else (V (rungOf x) : Int)
theorem read_fin (x : Nat) (h : rungOf x < INF) : double.read x = .number (negOf x) (magOf (rungOf x)) (-1074 + expOf (rungOf x)) := by
 rw [read_eq, if_pos (show rungOf x < 2047 * 2 ^ 52 from h)]
theorem read_inf (x : Nat) (h : rungOf x = INF) : double.read x = .infinity (negOf x) := by
 rw [read_eq, if_neg (by show ¬ (rungOf x < INF); omega), if_pos (show rungOf x = 2047 * 2 ^ 52 from h)]
theorem read_nan (x : Nat) (h : INF < rungOf x) : double.read x = .nan (negOf x) (rungOf x - INF) := by
 rw [read_eq, if_neg (by show ¬ (rungOf x < INF); omega), if_neg (by show ¬ (rungOf x = INF); omega)]; rfl
theorem signed_eq (s : Bool) (m up : Nat) : signed s m up = if s then -((m * 2 ^ up : Nat) : Int) else ((m * 2 ^ up : Nat) : Int) := by
 unfold signed; rw [Nat.shiftLeft_eq]
theorem signed_K (x : Nat) (b : Nat) (h : b ≤ expOf (rungOf x)) :
  signed (negOf x) (magOf (rungOf x)) (expOf (rungOf x) - b) * (2 ^ b : Nat) = K x := by
 rw [signed_eq]
 unfold K V
 have e : magOf (rungOf x) * 2 ^ (expOf (rungOf x) - b) * 2 ^ b = magOf (rungOf x) * 2 ^ expOf (rungOf x) := by
  rw [Nat.mul_assoc, ← pow_add']
  have : expOf (rungOf x) - b + b = expOf (rungOf x) := by omega
  rw [this]
 cases negOf x
 ·simp only [Bool.false_eq_true, if_false]
  rw [← e]; simp
 ·simp only [if_true]
  rw [← e]; simp [Int.neg_mul]
theorem min_place (e f : Nat) : min (-1074 + (e : Int)) (-1074 + (f : Int)) = -1074 + ((min e f : Nat) : Int) := by omega
theorem order_key (x y : Nat) (hx : rungOf x ≤ INF) (hy : rungOf y ≤ INF) : double.order x y = some (compare (K x) (K y)) := by
 unfold Format.order
 have hI := V_pos INF (by decide)
 rcases Nat.lt_or_eq_of_le hx with h1 | h1 <;> rcases Nat.lt_or_eq_of_le hy with h2 | h2
 ·rw [read_fin x h1, read_fin y h2]
  simp only [Datum.order]
  rw [min_place]
  obtain ⟨b, hb⟩ : ∃ b, b = min (expOf (rungOf x)) (expOf (rungOf y)) := ⟨_, rfl⟩
  rw [← hb]
  have e1 : (-1074 + (expOf (rungOf x) : Int) - (-1074 + (b : Int))).toNat = expOf (rungOf x) - b := by omega
  have e2 : (-1074 + (expOf (rungOf y) : Int) - (-1074 + (b : Int))).toNat = expOf (rungOf y) - b := by omega
  rw [e1, e2, ← signed_K x b (by omega), ← signed_K y b (by omega)]
  have hp : (0 : Int) < (2 ^ b : Nat) := by have := Nat.two_pow_pos b; omega
  congr 1
  obtain ⟨u, hu⟩ : ∃ u, u = signed (negOf x) (magOf (rungOf x)) (expOf (rungOf x) - b) := ⟨_, rfl⟩
  obtain ⟨v, hv⟩ : ∃ v, v = signed (negOf y) (magOf (rungOf y)) (expOf (rungOf y) - b) := ⟨_, rfl⟩
  rw [← hu, ← hv]
  rcases Int.lt_trichotomy u v with h | h | h
  ·rw [Int.compare_eq_lt.2 h, Int.compare_eq_lt.2 (Int.mul_lt_mul_of_pos_right h hp)]
  ·rw [h]; rw [Int.compare_eq_eq.2 rfl, Int.compare_eq_eq.2 rfl]
  ·rw [Int.compare_eq_gt.2 h, Int.compare_eq_gt.2 (Int.mul_lt_mul_of_pos_right h hp)]
 ·rw [read_fin x h1, read_inf y h2]
  simp only [Datum.order]
  have hv := V_lt _ _ h1
  unfold K
  rw [h2]
  cases negOf y
  ·simp only [Bool.false_eq_true, if_false]
   rw [Int.compare_eq_lt.2 (by split <;> omega)]
  ·simp only [if_true]
   rw [Int.compare_eq_gt.2 (by split <;> omega)]
 ·rw [read_inf x h1, read_fin y h2]
  simp only [Datum.order]
  have hv := V_lt _ _ h2
  unfold K
  rw [h1]
  cases negOf x
  ·simp only [Bool.false_eq_true, if_false]
   rw [Int.compare_eq_gt.2 (by split <;> omega)]
  ·simp only [if_true]
   rw [Int.compare_eq_lt.2 (by split <;> omega)]
 ·rw [read_inf x h1, read_inf y h2]
  simp only [Datum.order]
  unfold K
  rw [h1, h2]
  cases negOf x <;> cases negOf y
  ·simp only [Bool.false_eq_true, if_false]; rw [Int.compare_eq_eq.2 rfl]; rfl
  ·simp only [Bool.false_eq_true, if_false, if_true]; rw [Int.compare_eq_gt.2 (by omega)]; rfl
  ·simp only [Bool.false_eq_true, if_false, if_true]; rw [Int.compare_eq_lt.2 (by omega)]; rfl
  ·simp only [if_true]; rw [Int.compare_eq_eq.2 rfl]; rfl
theorem order_nan (x y : Nat) (h : INF < rungOf x ∨ INF < rungOf y) : double.order x y = none := by
 unfold Format.order
 rcases h with h | h
 ·rw [read_nan x h]; rfl
 ·rw [read_nan y h]; cases double.read x <;> rfl
end Go.Proofs.YthnjeejnnhadeaaGreatDoor.Flt

namespace Go.Proofs.YthnjeejnnhadeaaGreatDoor.Flt
open Ieee
theorem word_fine (s : Bool) (r : Nat) (h : r ≤ INF) : rungOf (double.word s r) ≤ INF ∧ double.word s r < 2 ^ 64 := by
 have hI : INF = 2047 * 2 ^ 52 := rfl
 rw [rungOf_word s r (by omega)]
 refine ⟨h, ?_⟩
 rw [word_eq]; split <;> omega
theorem write_fine (d : Datum) (h : d.isNaN = false) : rungOf (double.write d) ≤ INF ∧ double.write d < 2 ^ 64 := by
 cases d with
 | number s m p =>
  show rungOf (double.nearest s m p) ≤ INF ∧ double.nearest s m p < 2 ^ 64
  rw [nearest_rn]; exact word_fine _ _ (rn_le _ _)
 | infinity s => exact word_fine s INF (Nat.le_refl _)
 | nan s t => cases h
theorem map_fine (o : Option Datum) (h : ∀ d, o = some d → d.isNaN = false) (r : Nat) (hr : o.map double.write = some r) : rungOf r ≤ INF ∧ r < 2 ^ 64 := by
 cases o with
 | none => cases hr
 | some d => cases hr; exact write_fine d (h d rfl)
theorem sum_notnan (a b d : Datum) (h : a.sum b = some d) : d.isNaN = false := by
 cases a <;> cases b <;> simp only [Datum.sum] at h <;> first | (cases h; done) | (cases h; rfl) | skip
 ·split at h <;> cases h; rfl
theorem product_notnan (a b d : Datum) (h : a.product b = some d) : d.isNaN = false := by
 cases a <;> cases b <;> simp only [Datum.product] at h <;> first | (cases h; done) | (cases h; rfl) | skip
 ·split at h <;> cases h; rfl
 ·split at h <;> cases h; rfl
theorem quotient_notnan (k : Nat) (a b d : Datum) (h : a.quotient k b = some d) : d.isNaN = false := by
 cases a <;> cases b <;> simp only [Datum.quotient] at h <;> first | (cases h; done) | (cases h; rfl) | skip
 ·split at h
  ·split at h <;> cases h; rfl
  ·cases h; rfl
theorem add_fine (x y r : Nat) (h : double.add x y = some r) : rungOf r ≤ INF ∧ r < 2 ^ 64 := map_fine _ (sum_notnan _ _) r h
theorem sub_fine (x y r : Nat) (h : double.sub x y = some r) : rungOf r ≤ INF ∧ r < 2 ^ 64 := map_fine _ (sum_notnan _ _) r h
theorem mul_fine (x y r : Nat) (h : double.mul x y = some r) : rungOf r ≤ INF ∧ r < 2 ^ 64 := map_fine _ (product_notnan _ _) r h
theorem div_fine (x y r : Nat) (h : double.div x y = some r) : rungOf r ≤ INF ∧ r < 2 ^ 64 := map_fine _ (quotient_notnan _ _ _) r h
end Go.Proofs.YthnjeejnnhadeaaGreatDoor.Flt

namespace Go.Proofs.YthnjeejnnhadeaaGreatDoor.Flt
open Ieee
def NAN : Nat := 0x7ff8000000000000
def fadd (x y : Nat) : Nat := (double.add x y).getD NAN
def fsub (x y : Nat) : Nat := (double.sub x y).getD NAN
def fmul (x y : Nat) : Nat := (double.mul x y).getD NAN
def fdiv (x y : Nat) : Nat := (double.div x y).getD NAN
def fless (x y : Nat) : Bool := double.order x y == some .lt
theorem fless_key (x y : Nat) (hx : rungOf x ≤ INF) (hy : rungOf y ≤ INF) : fless x y = decide (K x < K y) := by
 unfold fless
 rw [order_key x y hx hy]
 by_cases h : K x < K y
 ·rw [Int.compare_eq_lt.2 h]; simp [h]
 ·rcases Int.lt_trichotomy (K x) (K y) with h1 | h1 | h1
  ·exact absurd h1 h
  ·rw [Int.compare_eq_eq.2 h1]; simp [h]
  ·rw [Int.compare_eq_gt.2 h1]; simp [h]
end Go.Proofs.YthnjeejnnhadeaaGreatDoor.Flt

namespace Go.Proofs.YthnjeejnnhadeaaGreatDoor.Flt
open Ieee
def ofInt (n : Int) : Nat := double.nearest (decide (n < 0)) n.natAbs 0
def part (x : Nat) : Int := if negOf x then -((V (rungOf x) / 2 ^ unit : Nat) : Int) else ((V (rungOf x) / 2 ^ unit : Nat) : Int)
def fwhole (x : Nat) : Int :=
 if INF < rungOf x then 0 else if (2 ^ 63 * 2 ^ unit : Nat) ≤ K x then 2 ^ 63 - 1 else if K x < -(2 ^ 63 * 2 ^ unit : Nat) then -2 ^ 63 else part x
theorem ofInt_eq (n : Int) : ofInt n = double.word (decide (n < 0)) (rn (n.natAbs * 2 ^ unit) 1) := by
 unfold ofInt
 rw [nearest_rn]
 have e1 : ((0 : Int) + 1074).toNat = unit := rfl
 have e2 : (-((0 : Int) + 1074)).toNat = 0 := rfl
 rw [e1, e2, Nat.pow_zero]
theorem cut_zero (neg : Bool) (n d : Nat) : Toward.zero.cut neg n d = n / 2 ^ d := by
 unfold Toward.cut
 by_cases h : d ≤ n.log2 + 2
 ·simp only [Nat.min_eq_left h, Nat.one_shiftLeft]
  rfl
 ·have hl : n < 2 ^ (n.log2 + 1) := Nat.lt_log2_self
  have h1 : min d (n.log2 + 2) = n.log2 + 2 := Nat.min_eq_right (by omega)
  have hp : 2 ^ (n.log2 + 1) ≤ 2 ^ (n.log2 + 2) := Nat.pow_le_pow_right (by decide) (by omega)
  have hs : 2 ^ (n.log2 + 2) ≤ 2 ^ d := Nat.pow_le_pow_right (by decide) (by omega)
  simp only [h1, Nat.one_shiftLeft]
  rw [Nat.div_eq_of_lt (show n < 2 ^ (n.log2 + 2) by omega), Nat.div_eq_of_lt (show n < 2 ^ d by omega)]
  rfl
theorem toInt_fin (x : Nat) (h : rungOf x < INF) : (double.read x).toInt .zero = some (part x) := by
 rw [read_fin x h]
 unfold Datum.toInt Datum.integral
 simp only [cut_zero]
 unfold part V
 obtain ⟨m, hm⟩ : ∃ m, m = magOf (rungOf x) := ⟨_, rfl⟩
 obtain ⟨e, he⟩ : ∃ e, e = expOf (rungOf x) := ⟨_, rfl⟩
 rw [← hm, ← he]
 have hT : unit = 1074 := rfl
 have key : m <<< (-1074 + (e : Int)).toNat / 2 ^ (-(-1074 + (e : Int))).toNat = m * 2 ^ e / 2 ^ unit := by
  rw [Nat.shiftLeft_eq]
  by_cases hle : e ≤ unit
  ·have e1 : (-1074 + (e : Int)).toNat = 0 := by omega
   have e2 : (-(-1074 + (e : Int))).toNat = unit - e := by omega
   have e3 : unit = (unit - e) + e := by omega
   rw [e1, e2, Nat.pow_zero, Nat.mul_one]
   have : m * 2 ^ e / 2 ^ unit = m * 2 ^ e / (2 ^ (unit - e) * 2 ^ e) := by rw [← pow_add', ← e3]
   rw [this, Nat.mul_div_mul_right _ _ (Nat.two_pow_pos e)]
  ·have e1 : (-1074 + (e : Int)).toNat = e - unit := by omega
   have e2 : (-(-1074 + (e : Int))).toNat = 0 := by omega
   have e3 : e = (e - unit) + unit := by omega
   rw [e1, e2, Nat.pow_zero, Nat.div_one]
   have : m * 2 ^ e = m * 2 ^ (e - unit) * 2 ^ unit := by rw [Nat.mul_assoc, ← pow_add', ← e3]
   rw [this, Nat.mul_div_cancel _ (Nat.two_pow_pos unit)]
 rw [key, signed_eq, Nat.pow_zero, Nat.mul_one]
theorem ofInt_fine (n : Int) : rungOf (ofInt n) = rn (n.natAbs * 2 ^ unit) 1 ∧ negOf (ofInt n) = decide (n < 0) ∧ ofInt n < 2 ^ 64 := by
 rw [ofInt_eq]
 exact ⟨rungOf_word _ _ (rn_lt _ _), negOf_word _ _ (rn_lt _ _), (word_fine _ _ (rn_le _ _)).2⟩
theorem ofInt_le (n : Int) : rungOf (ofInt n) ≤ INF := by
 rw [(ofInt_fine n).1]; exact rn_le _ _
end Go.Proofs.YthnjeejnnhadeaaGreatDoor.Flt
