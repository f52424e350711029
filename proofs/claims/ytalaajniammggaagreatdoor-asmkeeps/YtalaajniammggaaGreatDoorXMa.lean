/- Binary64: what a rung is worth, and rounding to a rung, over whole numbers. -/
import Derived.Laws.FloatArith
namespace Go.Proofs.YtalaajniammggaaGreatDoor
open Ieee
def rhe (n g : Nat) : Nat := n / g + (decide (g < 2 * (n % g)) || (g == 2 * (n % g) && n / g % 2 == 1)).toNat
theorem rhe_scale (n g c : Nat) (hc : 0 < c) : rhe (n * c) (g * c) = rhe n g := by
 unfold rhe
 rw [Nat.mul_div_mul_right n g hc,Nat.mul_mod_mul_right]
 congr 1
 have h1 : decide (g * c < 2 * (n % g * c)) = decide (g < 2 * (n % g)) := by
  rw [← Nat.mul_assoc]
  exact decide_eq_decide.2 (Nat.mul_lt_mul_right hc)
 have h2 : (g * c == 2 * (n % g * c)) = (g == 2 * (n % g)) := by
  rw [← Nat.mul_assoc,Bool.eq_iff_iff,beq_iff_eq,beq_iff_eq]
  exact ⟨fun h => Nat.eq_of_mul_eq_mul_right hc h,fun h => by rw [← h]⟩
 rw [h1,h2]
theorem rhe_one (n : Nat) : rhe n 1 = n := by
 unfold rhe
 simp [Nat.mod_one]
theorem rhe_exact (n g : Nat) (hg : 0 < g) : rhe (n * g) g = n := by
 have := rhe_scale n 1 g hg
 rw [Nat.one_mul] at this
 rw [this,rhe_one]
theorem rhe_small (n g : Nat) (h : 2 * n < g) : rhe n g = 0 := by
 unfold rhe
 have h1 : n / g = 0 := Nat.div_eq_of_lt (by omega)
 have h2 : n % g = n := Nat.mod_eq_of_lt (by omega)
 rw [h1,h2]
 have h3 : decide (g < 2 * n) = false := by simp; omega
 have h4 : (g == 2 * n) = false := by simp; omega
 rw [h3,h4]; rfl
theorem cut_even (neg : Bool) (n d : Nat) : Toward.even.cut neg n d = rhe n (2 ^ d) := by
 unfold Toward.cut
 by_cases h : d ≤ n.log2 + 2
 ·simp only [Nat.min_eq_left h,Nat.one_shiftLeft]
  rfl
 ·have hl : n < 2 ^ (n.log2 + 1) := Nat.lt_log2_self
  have h1 : min d (n.log2 + 2) = n.log2 + 2 := Nat.min_eq_right (by omega)
  have hp : 2 ^ (n.log2 + 2) = 2 * 2 ^ (n.log2 + 1) := by rw [Nat.pow_succ 2 (n.log2 + 1),Nat.mul_comm]
  have hs : 2 * n < 2 ^ d := by
   have : 2 ^ (n.log2 + 2) ≤ 2 ^ d := Nat.pow_le_pow_right (by decide) (by omega)
   omega
  rw [rhe_small n _ hs]
  simp only [h1,Nat.one_shiftLeft]
  exact rhe_small n _ (by omega)
def rn (A B : Nat) : Nat :=
 if A = 0 then 0 else min (((A / B).log2 - 52) * 2 ^ 52 + rhe A (B * 2 ^ ((A / B).log2 - 52))) (2047 * 2 ^ 52)
theorem rn_zero (B : Nat) : rn 0 B = 0 := rfl
theorem rn_scale (A B c : Nat) (hc : 0 < c) : rn (A * c) (B * c) = rn A B := by
 unfold rn
 have e : (A * c = 0) = (A = 0) := by
  apply propext
  constructor
  ·intro h
   rcases Nat.mul_eq_zero.1 h with h | h
   ·exact h
   ·omega
  ·intro h; rw [h,Nat.zero_mul]
 simp only [e,Nat.mul_div_mul_right A B hc]
 rw [Nat.mul_right_comm B c,rhe_scale _ _ _ hc]
theorem pow_add' (a b : Nat) : 2 ^ (a + b) = 2 ^ a * 2 ^ b := Nat.pow_add 2 a b
theorem log2_mul_pow (m k : Nat) (h : m ≠ 0) : (m * 2 ^ k).log2 = m.log2 + k := by
 have hp : 0 < 2 ^ k := Nat.two_pow_pos k
 have h0 : m * 2 ^ k ≠ 0 := Nat.mul_ne_zero h (by omega)
 refine (Nat.log2_eq_iff h0).2 ⟨?_,?_⟩
 ·rw [pow_add']; exact Nat.mul_le_mul_right _ (Nat.log2_self_le h)
 ·have : m.log2 + k + 1 = (m.log2 + 1) + k := by omega
  rw [this,pow_add']
  exact Nat.mul_lt_mul_of_pos_right Nat.lt_log2_self hp
theorem log2_div_pow (m k : Nat) (h : k ≤ m.log2) (h0 : m ≠ 0) : (m / 2 ^ k).log2 = m.log2 - k := by
 have hp : 0 < 2 ^ k := Nat.two_pow_pos k
 have e : m.log2 = (m.log2 - k) + k := by omega
 have hlo : 2 ^ (m.log2 - k) ≤ m / 2 ^ k := by
  rw [Nat.le_div_iff_mul_le hp,← pow_add',← e]
  exact Nat.log2_self_le h0
 have hn : m / 2 ^ k ≠ 0 := by have := Nat.two_pow_pos (m.log2 - k); omega
 refine (Nat.log2_eq_iff hn).2 ⟨hlo,?_⟩
 rw [Nat.div_lt_iff_lt_mul hp,← pow_add']
 have : m.log2 - k + 1 + k = m.log2 + 1 := by omega
 rw [this]
 exact Nat.lt_log2_self
theorem nearest_rn (neg : Bool) (mag : Nat) (place : Int) :
    double.nearest neg mag place = double.word neg (rn (mag * 2 ^ (place + 1074).toNat) (2 ^ (-(place + 1074)).toNat)) := by
  unfold Format.nearest
  by_cases h0 : mag = 0
  · subst h0; rw [if_pos rfl,Nat.zero_mul]; rfl
  · rw [if_neg h0]
    have hp : mag * 2 ^ (place + 1074).toNat ≠ 0 := Nat.mul_ne_zero h0 (by have := Nat.two_pow_pos (place + 1074).toNat; omega)
    unfold rn
    rw [if_neg hp]
    have hl : double.leastPlace = -1074 := by decide
    have hf : double.fractionBits = 52 := rfl
    have hb : double.binade = 2 ^ 52 := rfl
    have hi : double.infRung = 2047 * 2 ^ 52 := by decide
    simp only [hl,hf,hb,hi,cut_even]
    have key : ∀ T : Nat,(max (place + (mag.log2 : Int) - (52 : Nat)) (-1074) - -1074).toNat = T →
        ((mag * 2 ^ (place + 1074).toNat) / (2 ^ (-(place + 1074)).toNat)).log2 - 52 = T ∧
        rhe (mag <<< (place - max (place + (mag.log2 : Int) - (52 : Nat)) (-1074)).toNat) (2 ^ (max (place + (mag.log2 : Int) - (52 : Nat)) (-1074) - place).toNat) =
        rhe (mag * 2 ^ (place + 1074).toNat) (2 ^ (-(place + 1074)).toNat * 2 ^ T) := by
      intro T hT
      obtain ⟨L,hL⟩ : ∃ L,L = max (place + (mag.log2 : Int) - (52 : Nat)) (-1074) := ⟨_,rfl⟩
      rw [← hL] at hT ⊢
      have hLT : L = (T : Int) - 1074 := by omega
      constructor
      · by_cases hz : 0 ≤ place + 1074
        · have : (-(place + 1074)).toNat = 0 := by omega
          rw [this,Nat.pow_zero,Nat.div_one,log2_mul_pow _ _ h0]
          omega
        · have : (place + 1074).toNat = 0 := by omega
          rw [this,Nat.pow_zero,Nat.mul_one]
          by_cases hk : (-(place + 1074)).toNat ≤ mag.log2
          · rw [log2_div_pow _ _ hk h0]; omega
          · have hlt : mag / 2 ^ (-(place + 1074)).toNat = 0 := by
              apply Nat.div_eq_of_lt
              have h1 : mag < 2 ^ (mag.log2 + 1) := Nat.lt_log2_self
              have h2 : 2 ^ (mag.log2 + 1) ≤ 2 ^ (-(place + 1074)).toNat := Nat.pow_le_pow_right (by decide) (by omega)
              omega
            rw [hlt]
            have : Nat.log2 0 = 0 := by decide
            rw [this]; omega
      · rw [Nat.shiftLeft_eq,← pow_add']
        obtain ⟨a,ha⟩ : ∃ a,a = (place + 1074).toNat := ⟨_,rfl⟩
        obtain ⟨b,hb⟩ : ∃ b,b = (-(place + 1074)).toNat := ⟨_,rfl⟩
        obtain ⟨u,hu⟩ : ∃ u,u = (place - L).toNat := ⟨_,rfl⟩
        obtain ⟨d,hd⟩ : ∃ d,d = (L - place).toNat := ⟨_,rfl⟩
        rw [← ha,← hb,← hu,← hd]
        -- u + (b + T) = a + d
        have hs : u + (b + T) = a + d := by omega
        by_cases hud : u = 0
        · have : a + (d - (b + T)) + 0 = a + (d - (b + T)) := rfl
          subst hud
          rw [Nat.pow_zero,Nat.mul_one]
          have h3 : b + T = d + a := by omega
          rw [h3,pow_add' d a,rhe_scale _ _ _ (Nat.two_pow_pos a)]
        · have hd0 : d = 0 := by omega
          subst hd0
          have h3 : a = u + (b + T) := by omega
          rw [h3,pow_add' u (b + T),← Nat.mul_assoc,Nat.pow_zero,rhe_one,rhe_exact _ _ (Nat.two_pow_pos (b + T))]
    obtain ⟨k1,k2⟩ := key _ rfl
    rw [k1,k2]
end Go.Proofs.YtalaajniammggaaGreatDoor

/- Binary64: words as signs and rungs; what a rung is worth. -/
namespace Go.Proofs.YtalaajniammggaaGreatDoor
open Ieee
def magOf (r : Nat) : Nat := if r < 2 ^ 52 then r else 2 ^ 52 + r % 2 ^ 52
def expOf (r : Nat) : Nat := if r < 2 ^ 52 then 0 else r / 2 ^ 52 - 1
def V (r : Nat) : Nat := magOf r * 2 ^ expOf r
def negOf (x : Nat) : Bool := x / 2 ^ 63 % 2 == 1
def rungOf (x : Nat) : Nat := x % 2 ^ 63
theorem read_eq (x : Nat) : double.read x =
  if rungOf x < 2047 * 2 ^ 52 then .number (negOf x) (magOf (rungOf x)) (-1074 + expOf (rungOf x))
  else if rungOf x = 2047 * 2 ^ 52 then .infinity (negOf x) else .nan (negOf x) (rungOf x - 2047 * 2 ^ 52) := by
 have hs : double.signWeight = 2 ^ 63 := rfl
 have hb : double.binade = 2 ^ 52 := rfl
 have hi : double.infRung = 2047 * 2 ^ 52 := by decide
 have hl : double.leastPlace = -1074 := by decide
 unfold Format.read
 simp only [hs,hb,hi,hl]
 change (if rungOf x < 2 ^ 52 then Datum.number (negOf x) (rungOf x) (-1074) else if rungOf x < 2047 * 2 ^ 52 then Datum.number (negOf x) (2 ^ 52 + rungOf x % 2 ^ 52) (-1074 + ((rungOf x / 2 ^ 52 - 1 : Nat) : Int)) else if rungOf x = 2047 * 2 ^ 52 then Datum.infinity (negOf x) else Datum.nan (negOf x) (rungOf x - 2047 * 2 ^ 52)) = _
 by_cases h1 : rungOf x < 2 ^ 52
 ·have h2 : rungOf x < 2047 * 2 ^ 52 := by omega
  rw [if_pos h1,if_pos h2]
  simp [magOf,expOf,h1]
 ·rw [if_neg h1]
  by_cases h2 : rungOf x < 2047 * 2 ^ 52
  ·rw [if_pos h2,if_pos h2]
   simp only [magOf,expOf,if_neg h1]
  ·rw [if_neg h2,if_neg h2]
theorem word_eq (neg : Bool) (r : Nat) : double.word neg r = if neg then 2 ^ 63 + r else r := rfl
theorem negOf_word (neg : Bool) (r : Nat) (h : r < 2 ^ 63) : negOf (double.word neg r) = neg := by
 rw [word_eq]; unfold negOf
 cases neg
 ·have : r / 2 ^ 63 = 0 := Nat.div_eq_of_lt h
  simp [this]
 ·have : (2 ^ 63 + r) / 2 ^ 63 = 1 := by omega
  simp [this]
theorem rungOf_word (neg : Bool) (r : Nat) (h : r < 2 ^ 63) : rungOf (double.word neg r) = r := by
 rw [word_eq]; unfold rungOf
 cases neg
 ·exact Nat.mod_eq_of_lt h
 ·simp only [if_true]; omega
theorem word_of (x : Nat) (h : x < 2 ^ 64) : double.word (negOf x) (rungOf x) = x := by
 rw [word_eq]; unfold negOf rungOf
 by_cases hx : x < 2 ^ 63
 ·have h1 : x / 2 ^ 63 = 0 := Nat.div_eq_of_lt hx
  simp only [h1]
  exact Nat.mod_eq_of_lt hx
 ·have h1 : x / 2 ^ 63 = 1 := by omega
  simp only [h1]
  have : ((1 % 2 == 1) = true) := rfl
  rw [if_pos this]; omega
theorem rn_le (A B : Nat) : rn A B ≤ 2047 * 2 ^ 52 := by
 unfold rn
 split
 ·omega
 ·exact Nat.min_le_right _ _
theorem rn_lt (A B : Nat) : rn A B < 2 ^ 63 := by have := rn_le A B; omega
theorem V_pack (t k : Nat) (h1 : k ≤ 2 ^ 53) (h2 : t = 0 ∨ 2 ^ 52 ≤ k) : V (t * 2 ^ 52 + k) = k * 2 ^ t := by
 unfold V magOf expOf
 by_cases h : k < 2 ^ 52
 ·have ht : t = 0 := by omega
  subst ht
  simp [h]
 ·by_cases hk : k = 2 ^ 53
  ·subst hk
   have a : ¬ (t * 2 ^ 52 + 2 ^ 53 < 2 ^ 52) := by omega
   have b : (t * 2 ^ 52 + 2 ^ 53) / 2 ^ 52 - 1 = t + 1 := by omega
   have c : (t * 2 ^ 52 + 2 ^ 53) % 2 ^ 52 = 0 := by omega
   rw [if_neg a,if_neg a,b,c,pow_add' t 1]
   rw [Nat.add_zero,Nat.mul_comm (2 ^ t),← Nat.mul_assoc]
  ·have a : ¬ (t * 2 ^ 52 + k < 2 ^ 52) := by omega
   have b : (t * 2 ^ 52 + k) / 2 ^ 52 - 1 = t := by omega
   have c : 2 ^ 52 + (t * 2 ^ 52 + k) % 2 ^ 52 = k := by omega
   rw [if_neg a,if_neg a,b,c]
theorem rung_pack (r : Nat) : r = expOf r * 2 ^ 52 + magOf r ∧ magOf r < 2 ^ 53 ∧ (expOf r = 0 ∨ 2 ^ 52 ≤ magOf r) := by
 unfold magOf expOf
 split <;> omega
theorem V_zero : V 0 = 0 := by decide
theorem V_pos (r : Nat) (h : 0 < r) : 0 < V r := by
 obtain ⟨a,b,c⟩ := rung_pack r
 unfold V
 exact Nat.mul_pos (by omega) (Nat.two_pow_pos _)
theorem log2_lt53 (m : Nat) (h2 : m < 2 ^ 53) : m.log2 ≤ 52 := by
 by_cases h0 : m = 0
 ·subst h0; decide
 ·have := (Nat.log2_lt (n := m) (k := 53) h0).2 h2
  omega
theorem rhe_mono (a b g : Nat) (_hg : 0 < g) (h : a ≤ b) : rhe a g ≤ rhe b g := by
 unfold rhe
 by_cases hq : a / g = b / g
 ·rw [hq]
  have ha := Nat.div_add_mod a g
  have hb := Nat.div_add_mod b g
  rw [hq] at ha
  have hm : a % g ≤ b % g := by omega
  cases h1 : (decide (g < 2 * (a % g)) || (g == 2 * (a % g) && b / g % 2 == 1))
  ·simp
  ·have : (decide (g < 2 * (b % g)) || (g == 2 * (b % g) && b / g % 2 == 1)) = true := by
    simp only [Bool.or_eq_true,decide_eq_true_eq,Bool.and_eq_true,beq_iff_eq] at h1 ⊢
    rcases h1 with h1 | ⟨h1,h2⟩
    ·left; omega
    ·by_cases hx : a % g = b % g
     ·right; exact ⟨by omega,h2⟩
     ·left; omega
   rw [this]; exact Nat.le_refl _
 ·have hle : a / g ≤ b / g := Nat.div_le_div_right h
  have h1 : (decide (g < 2 * (a % g)) || (g == 2 * (a % g) && a / g % 2 == 1)).toNat ≤ 1 := by
   cases (decide (g < 2 * (a % g)) || (g == 2 * (a % g) && a / g % 2 == 1)) <;> simp
  omega
theorem rhe_le (a c g : Nat) (hg : 0 < g) (h : a ≤ c * g) : rhe a g ≤ c := by
 have := rhe_mono a (c * g) g hg h
 rw [rhe_exact _ _ hg] at this
 exact this
theorem le_rhe (a c g : Nat) (hg : 0 < g) (h : c * g ≤ a) : c ≤ rhe a g := by
 have := rhe_mono (c * g) a g hg h
 rw [rhe_exact _ _ hg] at this
 exact this
theorem kept_bounds (A : Nat) : rhe A (2 ^ (A.log2 - 52)) ≤ 2 ^ 53 ∧ (A.log2 - 52 = 0 ∨ 2 ^ 52 ≤ rhe A (2 ^ (A.log2 - 52))) := by
 constructor
 ·apply rhe_le _ _ _ (Nat.two_pow_pos _)
  have h : A < 2 ^ (A.log2 + 1) := Nat.lt_log2_self
  have h2 : 2 ^ (A.log2 + 1) ≤ 2 ^ 53 * 2 ^ (A.log2 - 52) := by
   rw [← pow_add']; exact Nat.pow_le_pow_right (by decide) (by omega)
  omega
 ·by_cases h0 : A.log2 - 52 = 0
  ·exact Or.inl h0
  ·right
   apply le_rhe _ _ _ (Nat.two_pow_pos _)
   have ha : A ≠ 0 := by intro h; subst h; exact h0 (by decide)
   have h := Nat.log2_self_le ha
   rw [← pow_add']
   have : 52 + (A.log2 - 52) = A.log2 := by omega
   rw [this]; exact h
theorem rn_mono1 (A A' : Nat) (h : A ≤ A') : rn A 1 ≤ rn A' 1 := by
 by_cases h0 : A = 0
 ·subst h0; rw [rn_zero]; exact Nat.zero_le _
 ·have h0' : A' ≠ 0 := by omega
  unfold rn
  rw [if_neg h0,if_neg h0']
  simp only [Nat.div_one,Nat.one_mul]
  have hlog : A.log2 ≤ A'.log2 := by
   rcases Nat.lt_or_ge A'.log2 A.log2 with h1 | h1
   ·exfalso
    have a1 := Nat.log2_self_le h0
    have a2 : A' < 2 ^ (A'.log2 + 1) := Nat.lt_log2_self
    have a3 : 2 ^ (A'.log2 + 1) ≤ 2 ^ A.log2 := Nat.pow_le_pow_right (by decide) (by omega)
    omega
   ·exact h1
  obtain ⟨k1,-⟩ := kept_bounds A
  obtain ⟨-,k2⟩ := kept_bounds A'
  have key : (A.log2 - 52) * 2 ^ 52 + rhe A (2 ^ (A.log2 - 52)) ≤ (A'.log2 - 52) * 2 ^ 52 + rhe A' (2 ^ (A'.log2 - 52)) := by
   by_cases he : A.log2 - 52 = A'.log2 - 52
   ·rw [he]
    have := rhe_mono A A' (2 ^ (A'.log2 - 52)) (Nat.two_pow_pos _) h
    omega
   ·rcases k2 with k2 | k2
    ·omega
    ·omega
  omega
theorem V_lt (a b : Nat) (h : a < b) : V a < V b := by
 obtain ⟨a1,a2,a3⟩ := rung_pack a
 obtain ⟨b1,b2,b3⟩ := rung_pack b
 unfold V
 by_cases he : expOf a = expOf b
 ·rw [he]
  exact Nat.mul_lt_mul_of_pos_right (by omega) (Nat.two_pow_pos _)
 ·have hlt : expOf a < expOf b := by omega
  have h1 : magOf a * 2 ^ expOf a < 2 ^ 53 * 2 ^ expOf a := Nat.mul_lt_mul_of_pos_right a2 (Nat.two_pow_pos _)
  have h2 : 2 ^ 53 * 2 ^ expOf a ≤ 2 ^ 52 * 2 ^ expOf b := by
   rw [← pow_add',← pow_add']
   exact Nat.pow_le_pow_right (by decide) (by omega)
  have h3 : 2 ^ 52 * 2 ^ expOf b ≤ magOf b * 2 ^ expOf b := Nat.mul_le_mul_right _ (by omega)
  omega
end Go.Proofs.YtalaajniammggaaGreatDoor

/- Binary64: order, sums, products, quotients in closed form. -/
namespace Go.Proofs.YtalaajniammggaaGreatDoor
open Ieee
def INF : Nat := 2047 * 2 ^ 52
def unit : Nat := 1074
def K (x : Nat) : Int := if negOf x then -(V (rungOf x) : Int) else (V (rungOf x) : Int)
theorem read_fin (x : Nat) (h : rungOf x < INF) : double.read x = .number (negOf x) (magOf (rungOf x)) (-1074 + expOf (rungOf x)) := by
 rw [read_eq,if_pos (show rungOf x < 2047 * 2 ^ 52 from h)]
theorem read_inf (x : Nat) (h : rungOf x = INF) : double.read x = .infinity (negOf x) := by
 rw [read_eq,if_neg (by show ¬ (rungOf x < INF); omega),if_pos (show rungOf x = 2047 * 2 ^ 52 from h)]
theorem read_nan (x : Nat) (h : INF < rungOf x) : double.read x = .nan (negOf x) (rungOf x - INF) := by
 rw [read_eq,if_neg (by show ¬ (rungOf x < INF); omega),if_neg (by show ¬ (rungOf x = INF); omega)]; rfl
theorem signed_eq (s : Bool) (m up : Nat) : signed s m up = if s then -((m * 2 ^ up : Nat) : Int) else ((m * 2 ^ up : Nat) : Int) := by
 unfold signed; rw [Nat.shiftLeft_eq]
theorem signed_K (x : Nat) (b : Nat) (h : b ≤ expOf (rungOf x)) :
  signed (negOf x) (magOf (rungOf x)) (expOf (rungOf x) - b) * (2 ^ b : Nat) = K x := by
 rw [signed_eq]
 unfold K V
 have e : magOf (rungOf x) * 2 ^ (expOf (rungOf x) - b) * 2 ^ b = magOf (rungOf x) * 2 ^ expOf (rungOf x) := by
  rw [Nat.mul_assoc,← pow_add']
  have : expOf (rungOf x) - b + b = expOf (rungOf x) := by omega
  rw [this]
 cases negOf x
 ·simp only [Bool.false_eq_true,if_false]
  rw [← e]; simp
 ·simp only [if_true]
  rw [← e]; simp [Int.neg_mul]
theorem min_place (e f : Nat) : min (-1074 + (e : Int)) (-1074 + (f : Int)) = -1074 + ((min e f : Nat) : Int) := by omega
theorem order_key (x y : Nat) (hx : rungOf x ≤ INF) (hy : rungOf y ≤ INF) : double.order x y = some (compare (K x) (K y)) := by
 unfold Format.order
 have hI := V_pos INF (by decide)
 rcases Nat.lt_or_eq_of_le hx with h1 | h1 <;> rcases Nat.lt_or_eq_of_le hy with h2 | h2
 ·rw [read_fin x h1,read_fin y h2]
  simp only [Datum.order]
  rw [min_place]
  obtain ⟨b,hb⟩ : ∃ b,b = min (expOf (rungOf x)) (expOf (rungOf y)) := ⟨_,rfl⟩
  rw [← hb]
  have e1 : (-1074 + (expOf (rungOf x) : Int) - (-1074 + (b : Int))).toNat = expOf (rungOf x) - b := by omega
  have e2 : (-1074 + (expOf (rungOf y) : Int) - (-1074 + (b : Int))).toNat = expOf (rungOf y) - b := by omega
  rw [e1,e2,← signed_K x b (by omega),← signed_K y b (by omega)]
  have hp : (0 : Int) < (2 ^ b : Nat) := by have := Nat.two_pow_pos b; omega
  congr 1
  obtain ⟨u,hu⟩ : ∃ u,u = signed (negOf x) (magOf (rungOf x)) (expOf (rungOf x) - b) := ⟨_,rfl⟩
  obtain ⟨v,hv⟩ : ∃ v,v = signed (negOf y) (magOf (rungOf y)) (expOf (rungOf y) - b) := ⟨_,rfl⟩
  rw [← hu,← hv]
  rcases Int.lt_trichotomy u v with h | h | h
  ·rw [Int.compare_eq_lt.2 h,Int.compare_eq_lt.2 (Int.mul_lt_mul_of_pos_right h hp)]
  ·rw [h]; rw [Int.compare_eq_eq.2 rfl,Int.compare_eq_eq.2 rfl]
  ·rw [Int.compare_eq_gt.2 h,Int.compare_eq_gt.2 (Int.mul_lt_mul_of_pos_right h hp)]
 ·rw [read_fin x h1,read_inf y h2]
  simp only [Datum.order]
  have hv := V_lt _ _ h1
  unfold K
  rw [h2]
  cases negOf y
  ·simp only [Bool.false_eq_true,if_false]
   rw [Int.compare_eq_lt.2 (by split <;> omega)]
  ·simp only [if_true]
   rw [Int.compare_eq_gt.2 (by split <;> omega)]
 ·rw [read_inf x h1,read_fin y h2]
  simp only [Datum.order]
  have hv := V_lt _ _ h2
  unfold K
  rw [h1]
  cases negOf x
  ·simp only [Bool.false_eq_true,if_false]
   rw [Int.compare_eq_gt.2 (by split <;> omega)]
  ·simp only [if_true]
   rw [Int.compare_eq_lt.2 (by split <;> omega)]
 ·rw [read_inf x h1,read_inf y h2]
  simp only [Datum.order]
  unfold K
  rw [h1,h2]
  cases negOf x <;> cases negOf y
  ·simp only [Bool.false_eq_true,if_false]; rw [Int.compare_eq_eq.2 rfl]; rfl
  ·simp only [Bool.false_eq_true,if_false,if_true]; rw [Int.compare_eq_gt.2 (by omega)]; rfl
  ·simp only [Bool.false_eq_true,if_false,if_true]; rw [Int.compare_eq_lt.2 (by omega)]; rfl
  ·simp only [if_true]; rw [Int.compare_eq_eq.2 rfl]; rfl
theorem order_nan (x y : Nat) (h : INF < rungOf x ∨ INF < rungOf y) : double.order x y = none := by
 unfold Format.order
 rcases h with h | h
 ·rw [read_nan x h]; rfl
 ·rw [read_nan y h]; cases double.read x <;> rfl
def flip (y : Nat) : Nat := if y < 2 ^ 63 then y + 2 ^ 63 else y - 2 ^ 63
theorem rungOf_flip (y : Nat) (h : y < 2 ^ 64) : rungOf (flip y) = rungOf y := by unfold flip rungOf; split <;> omega
theorem negOf_flip (y : Nat) (h : y < 2 ^ 64) : negOf (flip y) = !negOf y := by
 unfold flip negOf
 by_cases hy : y < 2 ^ 63
 ·have h1 : y / 2 ^ 63 = 0 := Nat.div_eq_of_lt hy
  have h2 : (y + 2 ^ 63) / 2 ^ 63 = 1 := by omega
  rw [if_pos hy,h1,h2]; rfl
 ·have h1 : y / 2 ^ 63 = 1 := by omega
  have h2 : (y - 2 ^ 63) / 2 ^ 63 = 0 := by omega
  rw [if_neg hy,h1,h2]; rfl
theorem mul_fin (x y : Nat) (hx : rungOf x < INF) (hy : rungOf y < INF) :
  double.mul x y = some (double.word (negOf x ^^ negOf y) (rn (V (rungOf x) * V (rungOf y)) (2 ^ unit))) := by
 unfold Format.mul
 rw [read_fin x hx,read_fin y hy]
 simp only [Datum.product,Option.map]
 show some (double.nearest _ _ _) = _
 rw [nearest_rn]
 congr 2
 unfold V
 obtain ⟨m,hm⟩ : ∃ m,m = magOf (rungOf x) := ⟨_,rfl⟩
 obtain ⟨n,hn⟩ : ∃ n,n = magOf (rungOf y) := ⟨_,rfl⟩
 obtain ⟨e,he⟩ : ∃ e,e = expOf (rungOf x) := ⟨_,rfl⟩
 obtain ⟨f,hf⟩ : ∃ f,f = expOf (rungOf y) := ⟨_,rfl⟩
 rw [← hm,← hn,← he,← hf]
 obtain ⟨a,ha⟩ : ∃ a,a = (-1074 + (e : Int) + (-1074 + (f : Int)) + 1074).toNat := ⟨_,rfl⟩
 obtain ⟨b,hb⟩ : ∃ b,b = (-(-1074 + (e : Int) + (-1074 + (f : Int)) + 1074)).toNat := ⟨_,rfl⟩
 rw [← ha,← hb]
 have hT : unit = 1074 := rfl
 have hE : e + f + b = a + unit := by omega
 have g1 : m * 2 ^ e * (n * 2 ^ f) = m * n * 2 ^ (e + f) := by
  rw [pow_add',Nat.mul_mul_mul_comm]
 rw [g1]
 by_cases hz : a = 0
 ·subst hz
  have h1 : unit = b + (e + f) := by omega
  rw [h1,pow_add' b (e + f),Nat.pow_zero,Nat.mul_one,rn_scale _ _ _ (Nat.two_pow_pos _)]
 ·have hb0 : b = 0 := by omega
  subst hb0
  have h1 : e + f = a + unit := by omega
  rw [h1,pow_add' a unit,← Nat.mul_assoc]
  have := rn_scale (m * n * 2 ^ a) (2 ^ 0) (2 ^ unit) (Nat.two_pow_pos _)
  rw [Nat.pow_zero,Nat.one_mul] at this
  exact this.symm
end Go.Proofs.YtalaajniammggaaGreatDoor

/- Binary64: quotients in closed form; ones, zeros, differences. -/
namespace Go.Proofs.YtalaajniammggaaGreatDoor
open Ieee
def keep (q : Nat) (s : Bool) (d : Nat) : Nat :=
 q / 2 ^ d + (decide (2 ^ d < 2 * (q % 2 ^ d)) || (2 ^ d == 2 * (q % 2 ^ d) && (s || q / 2 ^ d % 2 == 1))).toNat
theorem rhe_keep (N n d : Nat) (hn : 0 < n) (hd : 0 < d) : rhe N (n * 2 ^ d) = keep (N / n) (N % n != 0) d := by
 unfold rhe keep
 obtain ⟨c,rfl⟩ : ∃ c,d = c + 1 := ⟨d - 1,by omega⟩
 have hp : 2 ^ (c + 1) = 2 * 2 ^ c := by rw [Nat.pow_succ,Nat.mul_comm]
 rw [hp]
 obtain ⟨G,hG⟩ : ∃ G,G = 2 ^ c := ⟨_,rfl⟩
 have hG0 : 0 < G := by rw [hG]; exact Nat.two_pow_pos c
 rw [← hG]
 rw [← Nat.div_div_eq_div_mul]
 have hmod : N % (n * (2 * G)) = n * (N / n % (2 * G)) + N % n := by
  rw [Nat.mod_mul,Nat.add_comm]
 rw [hmod]
 obtain ⟨Q,hQ⟩ : ∃ Q,Q = N / n := ⟨_,rfl⟩
 obtain ⟨m,hm⟩ : ∃ m,m = Q % (2 * G) := ⟨_,rfl⟩
 obtain ⟨r,hr⟩ : ∃ r,r = N % n := ⟨_,rfl⟩
 have hrn : r < n := by rw [hr]; exact Nat.mod_lt _ hn
 rw [← hQ,← hm,← hr]
 congr 2
 have e1 : n * (2 * G) = 2 * (n * G) := by rw [Nat.mul_left_comm]
 have e2 : 2 * (n * m + r) = 2 * (n * m) + 2 * r := by omega
 rw [e1,e2]
 rcases Nat.lt_trichotomy m G with h | h | h
 ·-- below
  have hle : n * m + n ≤ n * G := by
   have : n * (m + 1) ≤ n * G := Nat.mul_le_mul_left n h
   rw [Nat.mul_add,Nat.mul_one] at this; exact this
  have a1 : decide (2 * (n * G) < 2 * (n * m) + 2 * r) = false := by simp; omega
  have a2 : (2 * (n * G) == 2 * (n * m) + 2 * r) = false := by simp; omega
  have a3 : decide (2 * G < 2 * m) = false := by simp; omega
  have a4 : (2 * G == 2 * m) = false := by simp; omega
  rw [a1,a2,a3,a4]; rfl
 ·subst h
  by_cases hr0 : r = 0
  ·rw [hr0]
   have a1 : decide (2 * (n * m) < 2 * (n * m) + 2 * 0) = false := by simp
   have a2 : (2 * (n * m) == 2 * (n * m) + 2 * 0) = true := by simp
   have a3 : decide (2 * m < 2 * m) = false := by simp
   have a4 : (2 * m == 2 * m) = true := by simp
   rw [a1,a2,a3,a4]; simp
  ·have a1 : decide (2 * (n * m) < 2 * (n * m) + 2 * r) = true := by simp; omega
   have a2 : (2 * m == 2 * m) = true := by simp
   have a3 : (r != 0) = true := by simp; omega
   rw [a1,a2,a3]; simp
 ·have hlt : n * G < n * m := Nat.mul_lt_mul_of_pos_left h hn
  have a1 : decide (2 * (n * G) < 2 * (n * m) + 2 * r) = true := by simp; omega
  have a3 : decide (2 * G < 2 * m) = true := by simp; omega
  rw [a1,a3]; rfl
theorem rn_sticky (N n a b : Nat) (hn : 0 < n) (hq : 2 ^ 53 ≤ N / n) :
    rn ((2 * (N / n) + (N % n != 0).toNat) * 2 ^ a) (2 * 2 ^ b) = rn (N * 2 ^ a) (n * 2 ^ b) := by
  obtain ⟨Q,hQ⟩ : ∃ Q,Q = N / n := ⟨_,rfl⟩
  obtain ⟨s,hs⟩ : ∃ s,s = (N % n != 0) := ⟨_,rfl⟩
  have hs1 : s.toNat ≤ 1 := by cases s <;> simp
  have hN : N = n * Q + N % n := by rw [hQ]; exact (Nat.div_add_mod N n).symm
  have hr : N % n < n := Nat.mod_lt _ hn
  have hN0 : N ≠ 0 := by
    intro h; rw [h,Nat.zero_div] at hq
    have := Nat.two_pow_pos 53; omega
  have hM2 : (2 * Q + s.toNat) / 2 = Q := by omega
  have hM3 : ((2 * Q + s.toNat) % 2 != 0) = s := by
    cases s
    · simp
    · have : (2 * Q + Bool.toNat true) % 2 = 1 := by simp only [Bool.toNat_true]; omega
      rw [this]; rfl
  rw [← hQ,← hs]
  unfold rn
  have p1 : (2 * Q + s.toNat) * 2 ^ a ≠ 0 := Nat.mul_ne_zero (by rw [← hQ] at hq; have := Nat.two_pow_pos 53; omega) (by have := Nat.two_pow_pos a; omega)
  have p2 : N * 2 ^ a ≠ 0 := Nat.mul_ne_zero hN0 (by have := Nat.two_pow_pos a; omega)
  rw [if_neg p1,if_neg p2]
  -- the same number of bits
  have hlog : ((2 * Q + s.toNat) * 2 ^ a / (2 * 2 ^ b)).log2 = (N * 2 ^ a / (n * 2 ^ b)).log2 ∧ a + 1 ≤ b + ((N * 2 ^ a / (n * 2 ^ b)).log2 - 52) := by
    rw [← hQ] at hq
    have hQ0 : Q ≠ 0 := by have := Nat.two_pow_pos 53; omega
    have hql : 53 ≤ Q.log2 := (Nat.le_log2 hQ0).2 hq
    by_cases hab : a < b
    · obtain ⟨c,rfl⟩ : ∃ c,b = c + a := ⟨b - a,by omega⟩
      have g1 : (2 * Q + s.toNat) * 2 ^ a / (2 * 2 ^ (c + a)) = Q / 2 ^ c := by
        rw [pow_add' c a,← Nat.mul_assoc,Nat.mul_div_mul_right _ _ (Nat.two_pow_pos a),← Nat.div_div_eq_div_mul,hM2]
      have g2 : N * 2 ^ a / (n * 2 ^ (c + a)) = Q / 2 ^ c := by
        rw [pow_add' c a,← Nat.mul_assoc,Nat.mul_div_mul_right _ _ (Nat.two_pow_pos a),← Nat.div_div_eq_div_mul,← hQ]
      rw [g1,g2]
      exact ⟨rfl,by omega⟩
    · obtain ⟨c,rfl⟩ : ∃ c,a = c + b := ⟨a - b,by omega⟩
      have hc : 0 < 2 ^ c := Nat.two_pow_pos c
      have g1 : (2 * Q + s.toNat) * 2 ^ (c + b) / (2 * 2 ^ b) = (2 * Q + s.toNat) * 2 ^ c / 2 := by
        rw [pow_add' c b,← Nat.mul_assoc,Nat.mul_div_mul_right _ _ (Nat.two_pow_pos b)]
      have g2 : N * 2 ^ (c + b) / (n * 2 ^ b) = N * 2 ^ c / n := by
        rw [pow_add' c b,← Nat.mul_assoc,Nat.mul_div_mul_right _ _ (Nat.two_pow_pos b)]
      have hup : (Q + 1) * 2 ^ c ≤ 2 ^ (Q.log2 + c + 1) := by
        have : Q.log2 + c + 1 = (Q.log2 + 1) + c := by omega
        rw [this,pow_add']
        exact Nat.mul_le_mul_right _ Nat.lt_log2_self
      have hlow : 2 ^ (Q.log2 + c) ≤ Q * 2 ^ c := by
        rw [pow_add']; exact Nat.mul_le_mul_right _ (Nat.log2_self_le hQ0)
      have k1 : ((2 * Q + s.toNat) * 2 ^ c / 2).log2 = Q.log2 + c := by
        have l1 : Q * 2 ^ c ≤ (2 * Q + s.toNat) * 2 ^ c / 2 := by
          rw [Nat.le_div_iff_mul_le (by decide)]
          have : Q * 2 ^ c * 2 = 2 * Q * 2 ^ c := by rw [Nat.mul_comm (Q * 2 ^ c),Nat.mul_assoc]
          rw [this]; exact Nat.mul_le_mul_right _ (by omega)
        have l2 : (2 * Q + s.toNat) * 2 ^ c / 2 < (Q + 1) * 2 ^ c := by
          rw [Nat.div_lt_iff_lt_mul (by decide)]
          have : (Q + 1) * 2 ^ c * 2 = (2 * Q + 2) * 2 ^ c := by rw [Nat.mul_comm ((Q + 1) * 2 ^ c),← Nat.mul_assoc,Nat.mul_add,Nat.mul_one]
          rw [this]; exact Nat.mul_lt_mul_of_pos_right (by omega) hc
        have h0 : (2 * Q + s.toNat) * 2 ^ c / 2 ≠ 0 := by have := Nat.two_pow_pos (Q.log2 + c); omega
        exact (Nat.log2_eq_iff h0).2 ⟨by omega,by omega⟩
      have k2 : (N * 2 ^ c / n).log2 = Q.log2 + c := by
        have l1 : Q * 2 ^ c ≤ N * 2 ^ c / n := by
          rw [Nat.le_div_iff_mul_le hn,Nat.mul_right_comm]
          apply Nat.mul_le_mul_right
          rw [Nat.mul_comm]; omega
        have l2 : N * 2 ^ c / n < (Q + 1) * 2 ^ c := by
          rw [Nat.div_lt_iff_lt_mul hn,Nat.mul_right_comm]
          apply Nat.mul_lt_mul_of_pos_right _ hc
          rw [Nat.mul_comm,Nat.mul_add,Nat.mul_one]; omega
        have h0 : N * 2 ^ c / n ≠ 0 := by have := Nat.two_pow_pos (Q.log2 + c); omega
        exact (Nat.log2_eq_iff h0).2 ⟨by omega,by omega⟩
      rw [g1,g2,k1,k2]
      exact ⟨rfl,by omega⟩
  obtain ⟨h1,h2⟩ := hlog
  rw [h1]
  obtain ⟨t,ht⟩ : ∃ t,t = (N * 2 ^ a / (n * 2 ^ b)).log2 - 52 := ⟨_,rfl⟩
  rw [← ht] at h2 ⊢
  obtain ⟨d,hd⟩ : ∃ d,b + t = d + a := ⟨b + t - a,by omega⟩
  have e1 : 2 * 2 ^ b * 2 ^ t = 2 * 2 ^ d * 2 ^ a := by rw [Nat.mul_assoc,← pow_add',hd,pow_add',Nat.mul_assoc]
  have e2 : n * 2 ^ b * 2 ^ t = n * 2 ^ d * 2 ^ a := by rw [Nat.mul_assoc,← pow_add',hd,pow_add',Nat.mul_assoc]
  rw [e1,e2,rhe_scale _ _ _ (Nat.two_pow_pos a),rhe_scale _ _ _ (Nat.two_pow_pos a)]
  rw [rhe_keep _ 2 d (by decide) (by omega),rhe_keep _ n d hn (by omega),hM2,hM3,← hQ,← hs]
theorem div_key (m n e f : Nat) (hmb : m < 2 ^ 53) (hn0 : n ≠ 0) (s : Bool) :
    double.nearest s (2 * (m <<< (52 + 2 + n.log2 - m.log2) / n) + (m <<< (52 + 2 + n.log2 - m.log2) % n != 0).toNat)
      (-1074 + (e : Int) - (-1074 + (f : Int)) - ((52 + 2 + n.log2 - m.log2 : Nat) : Int) - 1) =
    double.word s (rn (m * 2 ^ e * 2 ^ unit) (n * 2 ^ f)) := by
  rw [nearest_rn]
  by_cases hm0 : m = 0
  · subst hm0
    simp [rn_zero]
  · have hml := log2_lt53 m hmb
    obtain ⟨w,hw⟩ : ∃ w,w = 52 + 2 + n.log2 - m.log2 := ⟨_,rfl⟩
    rw [← hw]
    have hT : unit = 1074 := rfl
    have hq : 2 ^ 53 ≤ m <<< w / n := by
      rw [Nat.shiftLeft_eq,Nat.le_div_iff_mul_le (by omega)]
      have h1 : n < 2 ^ (n.log2 + 1) := Nat.lt_log2_self
      have h2 : 2 ^ m.log2 ≤ m := Nat.log2_self_le hm0
      have h3 : 2 ^ m.log2 * 2 ^ w ≤ m * 2 ^ w := Nat.mul_le_mul_right _ h2
      have h4 : m.log2 + w = 53 + (n.log2 + 1) := by omega
      rw [← pow_add',h4,pow_add'] at h3
      have h5 : 2 ^ 53 * n ≤ 2 ^ 53 * 2 ^ (n.log2 + 1) := Nat.mul_le_mul_left _ (Nat.le_of_lt h1)
      exact Nat.le_trans h5 h3
    obtain ⟨a,ha⟩ : ∃ a,a = (-1074 + (e : Int) - (-1074 + (f : Int)) - (w : Int) - 1 + 1074).toNat := ⟨_,rfl⟩
    obtain ⟨b,hb⟩ : ∃ b,b = (-(-1074 + (e : Int) - (-1074 + (f : Int)) - (w : Int) - 1 + 1074)).toNat := ⟨_,rfl⟩
    rw [← ha,← hb]
    have hE : e + unit + b = a + f + w + 1 := by omega
    refine congrArg (double.word s) ?_
    rw [← rn_scale _ (2 ^ b) 2 (by decide)]
    have g1 : (2 * (m <<< w / n) + (m <<< w % n != 0).toNat) * 2 ^ a * 2 = (2 * (m <<< w / n) + (m <<< w % n != 0).toNat) * 2 ^ (a + 1) := by
      rw [Nat.mul_assoc,← Nat.pow_succ]
    rw [g1,Nat.mul_comm (2 ^ b) 2,rn_sticky _ n (a + 1) b (by omega) hq,Nat.shiftLeft_eq]
    -- m 2^w 2^(a+1) / (n 2^b) = m 2^e 2^unit / (n 2^f)
    have k1 := rn_scale (m * 2 ^ w * 2 ^ (a + 1)) (n * 2 ^ b) (2 ^ f) (Nat.two_pow_pos f)
    have k2 := rn_scale (m * 2 ^ e * 2 ^ unit) (n * 2 ^ f) (2 ^ b) (Nat.two_pow_pos b)
    rw [← k1,← k2]
    have q1 : m * 2 ^ w * 2 ^ (a + 1) * 2 ^ f = m * 2 ^ (w + (a + 1) + f) := by rw [pow_add' (w + (a + 1)) f,pow_add' w (a + 1)]; simp only [Nat.mul_assoc]
    have q2 : m * 2 ^ e * 2 ^ unit * 2 ^ b = m * 2 ^ (e + unit + b) := by rw [pow_add',pow_add']; simp only [Nat.mul_assoc]
    have q3 : n * 2 ^ b * 2 ^ f = n * 2 ^ f * 2 ^ b := Nat.mul_right_comm _ _ _
    have q4 : w + (a + 1) + f = e + unit + b := by omega
    rw [q1,q2,q3,q4]
theorem div_fin (x y : Nat) (hx : rungOf x < INF) (hy : rungOf y < INF) (hy0 : rungOf y ≠ 0) :
  double.div x y = some (double.word (negOf x ^^ negOf y) (rn (V (rungOf x) * 2 ^ unit) (V (rungOf y)))) := by
 unfold Format.div
 rw [read_fin x hx,read_fin y hy]
 have hn0 : magOf (rungOf y) ≠ 0 := by obtain ⟨a,b,c⟩ := rung_pack (rungOf y); omega
 obtain ⟨-,hmb,-⟩ := rung_pack (rungOf x)
 simp only [Datum.quotient,if_neg hn0,Option.map]
 exact congrArg some (div_key (magOf (rungOf x)) (magOf (rungOf y)) (expOf (rungOf x)) (expOf (rungOf y)) hmb hn0 (negOf x ^^ negOf y))
theorem word_fine (s : Bool) (r : Nat) (h : r ≤ INF) : rungOf (double.word s r) ≤ INF ∧ double.word s r < 2 ^ 64 := by
 have hI : INF = 2047 * 2 ^ 52 := rfl
 rw [rungOf_word s r (by omega)]
 refine ⟨h,?_⟩
 rw [word_eq]; split <;> omega
end Go.Proofs.YtalaajniammggaaGreatDoor

/- Binary64: what FltFollows asks of sums, products, quotients, order. -/
namespace Go.Proofs.YtalaajniammggaaGreatDoor
open Ieee
end Go.Proofs.YtalaajniammggaaGreatDoor

/- Binary64: whole numbers there and back. -/
namespace Go.Proofs.YtalaajniammggaaGreatDoor
open Ieee
def ofInt (n : Int) : Nat := double.nearest (decide (n < 0)) n.natAbs 0
def part (x : Nat) : Int := if negOf x then -((V (rungOf x) / 2 ^ unit : Nat) : Int) else ((V (rungOf x) / 2 ^ unit : Nat) : Int)
theorem ofInt_eq (n : Int) : ofInt n = double.word (decide (n < 0)) (rn (n.natAbs * 2 ^ unit) 1) := by
 unfold ofInt
 rw [nearest_rn]
 have e1 : ((0 : Int) + 1074).toNat = unit := rfl
 have e2 : (-((0 : Int) + 1074)).toNat = 0 := rfl
 rw [e1,e2,Nat.pow_zero]
theorem rhe_near (A g : Nat) (hg : 0 < g) : 2 * (rhe A g * g) ≤ 2 * A + g ∧ 2 * A ≤ 2 * (rhe A g * g) + g := by
 have h := Nat.div_add_mod A g
 have hr := Nat.mod_lt A hg
 obtain ⟨r,hr'⟩ : ∃ r,r = A % g := ⟨_,rfl⟩
 obtain ⟨q,hq'⟩ : ∃ q,q = A / g := ⟨_,rfl⟩
 unfold rhe
 rw [← hr',← hq'] at h ⊢
 rw [← hr'] at hr
 rw [Nat.mul_comm] at h
 cases hb : (decide (g < 2 * r) || (g == 2 * r && q % 2 == 1))
 ·simp only [Bool.or_eq_false_iff,decide_eq_false_iff_not] at hb
  simp only [Bool.toNat_false,Nat.add_zero]
  omega
 ·simp only [Bool.or_eq_true,decide_eq_true_eq,Bool.and_eq_true,beq_iff_eq] at hb
  simp only [Bool.toNat_true,Nat.add_mul,Nat.one_mul]
  omega
theorem log2_le63 (A : Nat) (h0 : A ≠ 0) (h : A ≤ 2 ^ 63) : A.log2 ≤ 63 := by
 have : A.log2 < 64 := (Nat.log2_lt h0).2 (by omega)
 omega
theorem round_int (A : Nat) (h : A ≤ 2 ^ 63) :
  ∃ B,V (rn (A * 2 ^ unit) 1) = B * 2 ^ unit ∧ A ≤ B + 512 ∧ B ≤ A + 512 ∧ (A ≤ 2 ^ 53 → B = A) ∧ B ≤ 2 ^ 63 ∧ rn (A * 2 ^ unit) 1 < INF := by
 by_cases h0 : A = 0
 ·subst h0
  exact ⟨0,by rw [Nat.zero_mul,rn_zero,V_zero],by omega,by omega,fun _ => rfl,by omega,by rw [Nat.zero_mul,rn_zero]; decide⟩
 ·have hI : INF = 2047 * 2 ^ 52 := rfl
  have hT : unit = 1074 := rfl
  have hu := Nat.two_pow_pos unit
  have hl := log2_le63 A h0 h
  have hA : A * 2 ^ unit ≠ 0 := Nat.mul_ne_zero h0 (by omega)
  have hlog : (A * 2 ^ unit).log2 = A.log2 + unit := log2_mul_pow A unit h0
  obtain ⟨t,ht⟩ : ∃ t,t = (A * 2 ^ unit).log2 - 52 := ⟨_,rfl⟩
  obtain ⟨k1,k2⟩ := kept_bounds (A * 2 ^ unit)
  rw [← ht] at k1 k2
  have hrn : rn (A * 2 ^ unit) 1 = t * 2 ^ 52 + rhe (A * 2 ^ unit) (2 ^ t) := by
   unfold rn
   rw [if_neg hA,Nat.div_one,Nat.one_mul,← ht]
   exact Nat.min_eq_left (by omega)
  have hlt : rn (A * 2 ^ unit) 1 < INF := by rw [hrn]; omega
  have hV : V (rn (A * 2 ^ unit) 1) = rhe (A * 2 ^ unit) (2 ^ t) * 2 ^ t := by
   rw [hrn]; exact V_pack t _ k1 k2
  by_cases hs : A.log2 ≤ 52
  ·have e1 : A * 2 ^ unit = A * 2 ^ (52 - A.log2) * 2 ^ t := by
    rw [Nat.mul_assoc,← pow_add']
    have : 52 - A.log2 + t = unit := by omega
    rw [this]
   refine ⟨A,?_,by omega,by omega,fun _ => rfl,h,hlt⟩
   rw [hV]
   have : rhe (A * 2 ^ unit) (2 ^ t) = A * 2 ^ (52 - A.log2) := by rw [e1]; exact rhe_exact _ _ (Nat.two_pow_pos t)
   rw [this]; exact e1.symm
  ·obtain ⟨d,hd⟩ : ∃ d,t = d + unit := ⟨t - unit,by omega⟩
   have hd1 : d = A.log2 - 52 := by omega
   have e1 : rhe (A * 2 ^ unit) (2 ^ t) = rhe A (2 ^ d) := by
    rw [hd,pow_add',rhe_scale _ _ _ hu]
   have e2 : rhe (A * 2 ^ unit) (2 ^ t) * 2 ^ t = rhe A (2 ^ d) * 2 ^ d * 2 ^ unit := by
    rw [e1,hd,pow_add',← Nat.mul_assoc]
   obtain ⟨n1,n2⟩ := rhe_near A (2 ^ d) (Nat.two_pow_pos d)
   have e3 : 2 ^ 63 = 2 ^ (63 - d) * 2 ^ d := by
    rw [← pow_add']
    have : 63 - d + d = 63 := by omega
    rw [this]
   have hB : rhe A (2 ^ d) * 2 ^ d ≤ 2 ^ 63 := by
    rw [e3]
    apply Nat.mul_le_mul_right
    apply rhe_le _ _ _ (Nat.two_pow_pos d)
    rw [← e3]; exact h
   by_cases hmax : A = 2 ^ 63
   ·have e4 : rhe A (2 ^ d) * 2 ^ d = 2 ^ 63 := by
     rw [hmax,e3,rhe_exact _ _ (Nat.two_pow_pos d)]
    refine ⟨2 ^ 63,by rw [hV,e2,e4],by omega,by omega,by omega,by omega,hlt⟩
   ·have hl2 : A.log2 ≤ 62 := by
     have : A.log2 < 63 := (Nat.log2_lt h0).2 (by omega)
     omega
    have hg : 2 ^ d ≤ 2 ^ 10 := Nat.pow_le_pow_right (by decide) (by omega)
    refine ⟨rhe A (2 ^ d) * 2 ^ d,by rw [hV,e2],by omega,by omega,?_,hB,hlt⟩
    intro h53
    have hge : 2 ^ 53 ≤ A := by
     have a1 := Nat.log2_self_le h0
     have a2 : 2 ^ 53 ≤ 2 ^ A.log2 := Nat.pow_le_pow_right (by decide) (by omega)
     omega
    have hA53 : A = 2 ^ 53 := by omega
    have hl53 : A.log2 = 53 := by rw [hA53]; decide
    have hd2 : d = 1 := by omega
    rw [hd2,hA53]; decide
theorem ofInt_fine (n : Int) : rungOf (ofInt n) = rn (n.natAbs * 2 ^ unit) 1 ∧ negOf (ofInt n) = decide (n < 0) ∧ ofInt n < 2 ^ 64 := by
 rw [ofInt_eq]
 exact ⟨rungOf_word _ _ (rn_lt _ _),negOf_word _ _ (rn_lt _ _),(word_fine _ _ (rn_le _ _)).2⟩
theorem V_le (a b : Nat) (h : a ≤ b) : V a ≤ V b := by
 rcases Nat.lt_or_eq_of_le h with h1 | h1
 ·exact Nat.le_of_lt (V_lt _ _ h1)
 ·rw [h1]; exact Nat.le_refl _
theorem K_ofInt (n : Int) : K (ofInt n) = if n < 0 then -(V (rn (n.natAbs * 2 ^ unit) 1) : Int) else (V (rn (n.natAbs * 2 ^ unit) 1) : Int) := by
 obtain ⟨r1,r2,r3⟩ := ofInt_fine n
 unfold K
 rw [r1,r2]
 by_cases hn : n < 0 <;> simp [hn]
theorem K_small (n : Int) (h1 : -2 ^ 53 ≤ n) (h2 : n ≤ 2 ^ 53) : K (ofInt n) = n * ((2 ^ unit : Nat) : Int) := by
 rw [K_ofInt]
 obtain ⟨B,b1,b2,b3,b4,b5,b6⟩ := round_int n.natAbs (by omega)
 have hB := b4 (by omega)
 rw [b1,hB,Int.natCast_mul]
 by_cases hn : n < 0
 ·rw [if_pos hn]
  have : (n.natAbs : Int) = -n := by omega
  rw [this,Int.neg_mul,Int.neg_neg]
 ·rw [if_neg hn]
  have : (n.natAbs : Int) = n := by omega
  rw [this]
end Go.Proofs.YtalaajniammggaaGreatDoor
