/- Binary64: order, sums, products, quotients in closed form. -/
import Derived.Test.YtfkdaimhdjaefaaDoorFM2
namespace Go.Proofs.YtfkdaimhdjaefaaDoor.Flt
open Ieee

def INF : Nat := 2047 * 2 ^ 52
/-- Units of 2^-1074. -/
def unit : Nat := 1074
/-- The number that a word is, in units of 2^-1074; an infinity as the rung beyond the greatest. -/
def K (x : Nat) : Int := if negOf x then -(V (rungOf x) : Int) else (V (rungOf x) : Int)
def isN (x : Nat) : Bool := decide (INF < rungOf x)
def isFin (x : Nat) : Bool := decide (rungOf x < INF)

theorem read_fin (x : Nat) (h : rungOf x < INF) : double.read x = .number (negOf x) (magOf (rungOf x)) (-1074 + expOf (rungOf x)) := by
  rw [read_eq, if_pos (show rungOf x < 2047 * 2 ^ 52 from h)]
theorem read_inf (x : Nat) (h : rungOf x = INF) : double.read x = .infinity (negOf x) := by
  rw [read_eq, if_neg (by show ¬ (rungOf x < INF); omega), if_pos (show rungOf x = 2047 * 2 ^ 52 from h)]
theorem read_nan (x : Nat) (h : INF < rungOf x) : double.read x = .nan (negOf x) (rungOf x - INF) := by
  rw [read_eq, if_neg (by show ¬ (rungOf x < INF); omega), if_neg (by show ¬ (rungOf x = INF); omega)]; rfl

theorem signed_eq (s : Bool) (m up : Nat) : signed s m up = if s then -((m * 2 ^ up : Nat) : Int) else ((m * 2 ^ up : Nat) : Int) := by
  unfold signed; rw [Nat.shiftLeft_eq]

/-- A number of a word, by a lower place. -/
theorem signed_K (x : Nat) (b : Nat) (h : b ≤ expOf (rungOf x)) :
    signed (negOf x) (magOf (rungOf x)) (expOf (rungOf x) - b) * (2 ^ b : Nat) = K x := by
  rw [signed_eq]
  unfold K V
  have e : magOf (rungOf x) * 2 ^ (expOf (rungOf x) - b) * 2 ^ b = magOf (rungOf x) * 2 ^ expOf (rungOf x) := by
    rw [Nat.mul_assoc, ← pow_add']
    have : expOf (rungOf x) - b + b = expOf (rungOf x) := by omega
    rw [this]
  cases negOf x
  · simp only [Bool.false_eq_true, if_false]
    rw [← e]; simp
  · simp only [if_true]
    rw [← e]; simp [Int.neg_mul]

theorem min_place (e f : Nat) : min (-1074 + (e : Int)) (-1074 + (f : Int)) = -1074 + ((min e f : Nat) : Int) := by omega

theorem order_key (x y : Nat) (hx : rungOf x ≤ INF) (hy : rungOf y ≤ INF) : double.order x y = some (compare (K x) (K y)) := by
  unfold Format.order
  have hI := V_pos INF (by decide)
  rcases Nat.lt_or_eq_of_le hx with h1 | h1 <;> rcases Nat.lt_or_eq_of_le hy with h2 | h2
  · rw [read_fin x h1, read_fin y h2]
    simp only [Datum.order]
    rw [min_place]
    obtain ⟨b, hb⟩ : ∃ b, b = min (expOf (rungOf x)) (expOf (rungOf y)) := ⟨_, rfl⟩
    rw [← hb]
    have e1 : (-1074 + (expOf (rungOf x) : Int) - (-1074 + (b : Int))).toNat = expOf (rungOf x) - b := by omega
    have e2 : (-1074 + (expOf (rungOf y) : Int) - (-1074 + (b : Int))).toNat = expOf (rungOf y) - b := by omega
    rw [e1, e2, ← signed_K x b (by omega), ← signed_K y b (by omega)]
    have hp : (0 : Int) < (2 ^ b : Nat) := by have := Nat.two_pow_pos b; omega
    congr 1
    obtain ⟨u, hu⟩ : ∃ u, u = signed (negOf x) (magOf (rungOf x)) (expOf (rungOf x) - b) := ⟨_, rfl⟩
    obtain ⟨v, hv⟩ : ∃ v, v = signed (negOf y) (magOf (rungOf y)) (expOf (rungOf y) - b) := ⟨_, rfl⟩
    rw [← hu, ← hv]
    rcases Int.lt_trichotomy u v with h | h | h
    · rw [Int.compare_eq_lt.2 h, Int.compare_eq_lt.2 (Int.mul_lt_mul_of_pos_right h hp)]
    · rw [h]; rw [Int.compare_eq_eq.2 rfl, Int.compare_eq_eq.2 rfl]
    · rw [Int.compare_eq_gt.2 h, Int.compare_eq_gt.2 (Int.mul_lt_mul_of_pos_right h hp)]
  · rw [read_fin x h1, read_inf y h2]
    simp only [Datum.order]
    have hv := V_lt _ _ h1
    unfold K
    rw [h2]
    cases negOf y
    · simp only [Bool.false_eq_true, if_false]
      rw [Int.compare_eq_lt.2 (by split <;> omega)]
    · simp only [if_true]
      rw [Int.compare_eq_gt.2 (by split <;> omega)]
  · rw [read_inf x h1, read_fin y h2]
    simp only [Datum.order]
    have hv := V_lt _ _ h2
    unfold K
    rw [h1]
    cases negOf x
    · simp only [Bool.false_eq_true, if_false]
      rw [Int.compare_eq_gt.2 (by split <;> omega)]
    · simp only [if_true]
      rw [Int.compare_eq_lt.2 (by split <;> omega)]
  · rw [read_inf x h1, read_inf y h2]
    simp only [Datum.order]
    unfold K
    rw [h1, h2]
    cases negOf x <;> cases negOf y
    · simp only [Bool.false_eq_true, if_false]; rw [Int.compare_eq_eq.2 rfl]; rfl
    · simp only [Bool.false_eq_true, if_false, if_true]; rw [Int.compare_eq_gt.2 (by omega)]; rfl
    · simp only [Bool.false_eq_true, if_false, if_true]; rw [Int.compare_eq_lt.2 (by omega)]; rfl
    · simp only [if_true]; rw [Int.compare_eq_eq.2 rfl]; rfl

theorem order_nan (x y : Nat) (h : INF < rungOf x ∨ INF < rungOf y) : double.order x y = none := by
  unfold Format.order
  rcases h with h | h
  · rw [read_nan x h]; rfl
  · rw [read_nan y h]; cases double.read x <;> rfl

theorem write_number (neg : Bool) (mag : Nat) (b : Nat) : double.write (.number neg mag (-1074 + (b : Int))) = double.word neg (rn (mag * 2 ^ b) 1) := by
  show double.nearest _ _ _ = _
  rw [nearest_rn]
  have e1 : (-1074 + (b : Int) + 1074).toNat = b := by omega
  have e2 : (-(-1074 + (b : Int) + 1074)).toNat = 0 := by omega
  rw [e1, e2, Nat.pow_zero]

theorem sum_key (s t : Bool) (m n e f : Nat) (u v : Int) (hu : ∀ b, b ≤ e → signed s m (e - b) * (2 ^ b : Nat) = u) (hv : ∀ b, b ≤ f → signed t n (f - b) * (2 ^ b : Nat) = v) :
    ((Datum.number s m (-1074 + (e : Int))).sum (.number t n (-1074 + (f : Int)))).map double.write =
    some (double.word (if u + v = 0 then s && t else decide (u + v < 0)) (rn (u + v).natAbs 1)) := by
  simp only [Datum.sum, Option.map]
  rw [min_place]
  obtain ⟨b, hb⟩ : ∃ b, b = min e f := ⟨_, rfl⟩
  rw [← hb]
  have e1 : (-1074 + (e : Int) - (-1074 + (b : Int))).toNat = e - b := by omega
  have e2 : (-1074 + (f : Int) - (-1074 + (b : Int))).toNat = f - b := by omega
  rw [e1, e2, write_number]
  have hu' := hu b (by omega)
  have hv' := hv b (by omega)
  obtain ⟨p, hp⟩ : ∃ p, p = signed s m (e - b) + signed t n (f - b) := ⟨_, rfl⟩
  rw [← hp]
  have hP : (0 : Int) < (2 ^ b : Nat) := by have := Nat.two_pow_pos b; omega
  have huv : u + v = p * (2 ^ b : Nat) := by rw [hp, Int.add_mul, hu', hv']
  rw [huv]
  have h1 : (p * ((2 ^ b : Nat) : Int) = 0) = (p = 0) := by
    apply propext; constructor
    · intro h
      rcases Int.mul_eq_zero.1 h with h | h
      · exact h
      · omega
    · intro h; rw [h, Int.zero_mul]
  have h2 : (p * ((2 ^ b : Nat) : Int) < 0) = (p < 0) := by
    apply propext; constructor
    · intro h
      by_cases h' : p < 0
      · exact h'
      · have := Int.mul_nonneg (Int.not_lt.1 h') (Int.le_of_lt hP); omega
    · intro h; exact Int.mul_neg_of_neg_of_pos h hP
  have h3 : (p * ((2 ^ b : Nat) : Int)).natAbs = p.natAbs * 2 ^ b := by
    rw [Int.natAbs_mul, Int.natAbs_natCast]
  rw [h3]
  simp only [h1, h2]

theorem add_fin (x y : Nat) (hx : rungOf x < INF) (hy : rungOf y < INF) :
    double.add x y = some (double.word (if K x + K y = 0 then negOf x && negOf y else decide (K x + K y < 0)) (rn (K x + K y).natAbs 1)) := by
  unfold Format.add
  rw [read_fin x hx, read_fin y hy]
  exact sum_key _ _ _ _ _ _ _ _ (signed_K x) (signed_K y)

/-- The sign turned. -/
def flip (y : Nat) : Nat := if y < 2 ^ 63 then y + 2 ^ 63 else y - 2 ^ 63

theorem flip_lt (y : Nat) (h : y < 2 ^ 64) : flip y < 2 ^ 64 := by unfold flip; split <;> omega
theorem rungOf_flip (y : Nat) (h : y < 2 ^ 64) : rungOf (flip y) = rungOf y := by unfold flip rungOf; split <;> omega
theorem negOf_flip (y : Nat) (h : y < 2 ^ 64) : negOf (flip y) = !negOf y := by
  unfold flip negOf
  by_cases hy : y < 2 ^ 63
  · have h1 : y / 2 ^ 63 = 0 := Nat.div_eq_of_lt hy
    have h2 : (y + 2 ^ 63) / 2 ^ 63 = 1 := by omega
    rw [if_pos hy, h1, h2]; rfl
  · have h1 : y / 2 ^ 63 = 1 := by omega
    have h2 : (y - 2 ^ 63) / 2 ^ 63 = 0 := by omega
    rw [if_neg hy, h1, h2]; rfl

theorem read_flip (y : Nat) (h : y < 2 ^ 64) : double.read (flip y) = (double.read y).opposite := by
  rw [read_eq, read_eq, rungOf_flip y h, negOf_flip y h]
  split
  · rfl
  · split <;> rfl

theorem sub_flip (x y : Nat) (h : y < 2 ^ 64) : double.sub x y = double.add x (flip y) := by
  unfold Format.sub Format.add
  rw [read_flip y h]

theorem sum_comm (a b : Datum) : a.sum b = b.sum a := by
  cases a <;> cases b <;> simp only [Datum.sum]
  · rename_i s m i t n j
    rw [Int.min_comm i j, Int.add_comm, Bool.and_comm]
  · rename_i s t
    by_cases h : s = t
    · subst h; rfl
    · have h' : ¬ t = s := fun e => h e.symm
      rw [if_neg h, if_neg h']

theorem add_comm' (x y : Nat) : double.add x y = double.add y x := by
  unfold Format.add; rw [sum_comm]

theorem product_comm (a b : Datum) : a.product b = b.product a := by
  cases a <;> cases b <;> simp only [Datum.product]
  · rename_i s m i t n j
    rw [Bool.xor_comm, Nat.mul_comm, Int.add_comm]
  · rename_i s t
    rw [Bool.xor_comm]

theorem mul_comm' (x y : Nat) : double.mul x y = double.mul y x := by
  unfold Format.mul; rw [product_comm]

theorem add_nan (x y : Nat) (h : INF < rungOf x ∨ INF < rungOf y) : double.add x y = none := by
  unfold Format.add
  rcases h with h | h
  · rw [read_nan x h]; rfl
  · rw [read_nan y h]; cases double.read x <;> rfl
theorem mul_nan (x y : Nat) (h : INF < rungOf x ∨ INF < rungOf y) : double.mul x y = none := by
  unfold Format.mul
  rcases h with h | h
  · rw [read_nan x h]; rfl
  · rw [read_nan y h]; cases double.read x <;> rfl
theorem div_nan (x y : Nat) (h : INF < rungOf x ∨ INF < rungOf y) : double.div x y = none := by
  unfold Format.div
  rcases h with h | h
  · rw [read_nan x h]; rfl
  · rw [read_nan y h]; cases double.read x <;> rfl
theorem sub_nan (x y : Nat) (h : INF < rungOf x ∨ INF < rungOf y) : double.sub x y = none := by
  unfold Format.sub
  rcases h with h | h
  · rw [read_nan x h]; rfl
  · rw [read_nan y h]; cases double.read x <;> rfl

/-- Infinities in sums. -/
theorem add_inf (x y : Nat) (hx : rungOf x = INF) (hy : rungOf y < INF) : double.add x y = some (double.word (negOf x) INF) := by
  unfold Format.add
  rw [read_inf x hx, read_fin y hy]; rfl
theorem add_infs (x y : Nat) (hx : rungOf x = INF) (hy : rungOf y = INF) : double.add x y = if negOf x = negOf y then some (double.word (negOf x) INF) else none := by
  unfold Format.add
  rw [read_inf x hx, read_inf y hy]
  simp only [Datum.sum]
  split <;> rfl

theorem mul_fin (x y : Nat) (hx : rungOf x < INF) (hy : rungOf y < INF) :
    double.mul x y = some (double.word (negOf x ^^ negOf y) (rn (V (rungOf x) * V (rungOf y)) (2 ^ unit))) := by
  unfold Format.mul
  rw [read_fin x hx, read_fin y hy]
  simp only [Datum.product, Option.map]
  show some (double.nearest _ _ _) = _
  rw [nearest_rn]
  congr 2
  unfold V
  obtain ⟨m, hm⟩ : ∃ m, m = magOf (rungOf x) := ⟨_, rfl⟩
  obtain ⟨n, hn⟩ : ∃ n, n = magOf (rungOf y) := ⟨_, rfl⟩
  obtain ⟨e, he⟩ : ∃ e, e = expOf (rungOf x) := ⟨_, rfl⟩
  obtain ⟨f, hf⟩ : ∃ f, f = expOf (rungOf y) := ⟨_, rfl⟩
  rw [← hm, ← hn, ← he, ← hf]
  obtain ⟨a, ha⟩ : ∃ a, a = (-1074 + (e : Int) + (-1074 + (f : Int)) + 1074).toNat := ⟨_, rfl⟩
  obtain ⟨b, hb⟩ : ∃ b, b = (-(-1074 + (e : Int) + (-1074 + (f : Int)) + 1074)).toNat := ⟨_, rfl⟩
  rw [← ha, ← hb]
  have hT : unit = 1074 := rfl
  have hE : e + f + b = a + unit := by omega
  have g1 : m * 2 ^ e * (n * 2 ^ f) = m * n * 2 ^ (e + f) := by
    rw [pow_add', Nat.mul_mul_mul_comm]
  rw [g1]
  by_cases hz : a = 0
  · subst hz
    have h1 : unit = b + (e + f) := by omega
    rw [h1, pow_add' b (e + f), Nat.pow_zero, Nat.mul_one, rn_scale _ _ _ (Nat.two_pow_pos _)]
  · have hb0 : b = 0 := by omega
    subst hb0
    have h1 : e + f = a + unit := by omega
    rw [h1, pow_add' a unit, ← Nat.mul_assoc]
    have := rn_scale (m * n * 2 ^ a) (2 ^ 0) (2 ^ unit) (Nat.two_pow_pos _)
    rw [Nat.pow_zero, Nat.one_mul] at this
    exact this.symm

theorem mul_inf (x y : Nat) (hx : rungOf x = INF) (hy : rungOf y ≤ INF) (h0 : rungOf y ≠ 0) : double.mul x y = some (double.word (negOf x ^^ negOf y) INF) := by
  unfold Format.mul
  rw [read_inf x hx]
  rcases Nat.lt_or_eq_of_le hy with h | h
  · rw [read_fin y h]
    have hm : magOf (rungOf y) ≠ 0 := by obtain ⟨a, b, c⟩ := rung_pack (rungOf y); omega
    simp only [Datum.product, if_neg hm]
    rfl
  · rw [read_inf y h]; rfl
theorem mul_inf_zero (x y : Nat) (hx : rungOf x = INF) (h0 : rungOf y = 0) : double.mul x y = none := by
  unfold Format.mul
  rw [read_inf x hx, read_fin y (by rw [h0]; decide), h0]
  rfl
end Go.Proofs.YtfkdaimhdjaefaaDoor.Flt
