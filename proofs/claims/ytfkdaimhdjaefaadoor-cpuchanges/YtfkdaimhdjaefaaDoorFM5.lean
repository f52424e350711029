/- Binary64: what FltFollows asks of sums, products, quotients, order. -/
import Derived.Test.YtfkdaimhdjaefaaDoorFM4
namespace Go.Proofs.YtfkdaimhdjaefaaDoor.Flt
open Ieee

def NAN : Nat := 0x7ff8000000000000
def fadd (x y : Nat) : Nat := (double.add x y).getD NAN
def fsub (x y : Nat) : Nat := (double.sub x y).getD NAN
def fmul (x y : Nat) : Nat := (double.mul x y).getD NAN
def fdiv (x y : Nat) : Nat := (double.div x y).getD NAN
def fless (x y : Nat) : Bool := double.order x y == some .lt

theorem fadd_comm (x y : Nat) : fadd x y = fadd y x := by unfold fadd; rw [add_comm']
theorem fmul_comm (x y : Nat) : fmul x y = fmul y x := by unfold fmul; rw [mul_comm']
theorem fsub_flip (x y : Nat) (h : y < 2 ^ 64) : fsub x y = fadd x (flip y) := by unfold fsub fadd; rw [sub_flip x y h]

theorem getD_nan (o : Option Nat) (h : ∀ r, o = some r → rungOf r ≤ INF ∧ r < 2 ^ 64) : (INF < rungOf (o.getD NAN) → o.getD NAN = NAN) ∧ o.getD NAN < 2 ^ 64 := by
  cases o with
  | none => exact ⟨fun _ => rfl, by decide⟩
  | some r => exact ⟨fun h' => by have := (h r rfl).1; simp only [Option.getD_some] at h'; omega, (h r rfl).2⟩

theorem fadd_nan (x y : Nat) : (INF < rungOf (fadd x y) → fadd x y = NAN) ∧ fadd x y < 2 ^ 64 := getD_nan _ (add_fine x y)
theorem fsub_nan (x y : Nat) : (INF < rungOf (fsub x y) → fsub x y = NAN) ∧ fsub x y < 2 ^ 64 := getD_nan _ (sub_fine x y)
theorem fmul_nan (x y : Nat) : (INF < rungOf (fmul x y) → fmul x y = NAN) ∧ fmul x y < 2 ^ 64 := getD_nan _ (mul_fine x y)
theorem fdiv_nan (x y : Nat) : (INF < rungOf (fdiv x y) → fdiv x y = NAN) ∧ fdiv x y < 2 ^ 64 := getD_nan _ (div_fine x y)

theorem fadd_of_nan (x y : Nat) (h : INF < rungOf x ∨ INF < rungOf y) : fadd x y = NAN := by unfold fadd; rw [add_nan x y h]; rfl
theorem fsub_of_nan (x y : Nat) (h : INF < rungOf x ∨ INF < rungOf y) : fsub x y = NAN := by unfold fsub; rw [sub_nan x y h]; rfl
theorem fmul_of_nan (x y : Nat) (h : INF < rungOf x ∨ INF < rungOf y) : fmul x y = NAN := by unfold fmul; rw [mul_nan x y h]; rfl
theorem fdiv_of_nan (x y : Nat) (h : INF < rungOf x ∨ INF < rungOf y) : fdiv x y = NAN := by unfold fdiv; rw [div_nan x y h]; rfl

theorem fless_of_nan (x y : Nat) (h : INF < rungOf x ∨ INF < rungOf y) : fless x y = false := by unfold fless; rw [order_nan x y h]; rfl

theorem fless_key (x y : Nat) (hx : rungOf x ≤ INF) (hy : rungOf y ≤ INF) : fless x y = decide (K x < K y) := by
  unfold fless
  rw [order_key x y hx hy]
  by_cases h : K x < K y
  · rw [Int.compare_eq_lt.2 h]; simp [h]
  · rcases Int.lt_trichotomy (K x) (K y) with h1 | h1 | h1
    · exact absurd h1 h
    · rw [Int.compare_eq_eq.2 h1]; simp [h]
    · rw [Int.compare_eq_gt.2 h1]; simp [h]

theorem fless_anti (x y : Nat) (h : fless x y = true) : fless y x = false := by
  by_cases hx : INF < rungOf x
  · rw [fless_of_nan x y (.inl hx)] at h; cases h
  · by_cases hy : INF < rungOf y
    · rw [fless_of_nan x y (.inr hy)] at h; cases h
    · rw [fless_key x y (by omega) (by omega)] at h
      rw [fless_key y x (by omega) (by omega)]
      simp only [decide_eq_true_eq, decide_eq_false_iff_not] at h ⊢
      omega

def ONE : Nat := 0x3ff0000000000000
def SIGN : Nat := 0x8000000000000000

theorem V_one : V ONE = 2 ^ unit := by
  have e1 : magOf ONE = 2 ^ 52 := by decide
  have e2 : expOf ONE = unit - 52 := by decide
  have e3 : 52 + (unit - 52) = unit := by decide
  unfold V
  rw [e1, e2, ← pow_add', e3]

theorem fmul_one (x : Nat) (hx : x < 2 ^ 64) (h : rungOf x ≤ INF) : fmul x ONE = x := by
  unfold fmul
  have r1 : rungOf ONE = ONE := rfl
  have n1 : negOf ONE = false := rfl
  rcases Nat.lt_or_eq_of_le h with h1 | h1
  · rw [mul_fin x ONE h1 (by decide), n1, r1, Bool.xor_false]
    have v1 := V_one
    have := rn_scale (V (rungOf x)) 1 (2 ^ unit) (Nat.two_pow_pos _)
    rw [Nat.one_mul] at this
    rw [v1, this, rn_exact _ h, Option.getD_some, word_of x hx]
  · rw [mul_inf x ONE h1 (by decide) (by decide), n1, Bool.xor_false, ← h1, Option.getD_some, word_of x hx]

theorem fdiv_one (x : Nat) (hx : x < 2 ^ 64) (h : rungOf x ≤ INF) : fdiv x ONE = x := by
  unfold fdiv
  have r1 : rungOf ONE = ONE := rfl
  have n1 : negOf ONE = false := rfl
  rcases Nat.lt_or_eq_of_le h with h1 | h1
  · rw [div_fin x ONE h1 (by decide) (by decide), n1, r1, Bool.xor_false]
    have v1 := V_one
    have := rn_scale (V (rungOf x)) 1 (2 ^ unit) (Nat.two_pow_pos _)
    rw [Nat.one_mul] at this
    rw [v1, this, rn_exact _ h, Option.getD_some, word_of x hx]
  · rw [div_inf x ONE h1 (by decide), n1, Bool.xor_false, ← h1, Option.getD_some, word_of x hx]

theorem fadd_sign (x : Nat) (hx : x < 2 ^ 64) (h : rungOf x ≤ INF) : fadd x SIGN = x := by
  unfold fadd
  have r1 : rungOf SIGN = 0 := rfl
  have n1 : negOf SIGN = true := rfl
  rcases Nat.lt_or_eq_of_le h with h1 | h1
  · have k1 : K SIGN = 0 := by unfold K; rw [r1, n1, V_zero]; rfl
    rw [add_fin x SIGN h1 (by decide), n1, k1, Int.add_zero, Option.getD_some]
    have ea : (K x).natAbs = V (rungOf x) := by
      unfold K; split <;> simp
    have es : (if K x = 0 then negOf x && true else decide (K x < 0)) = negOf x := by
      unfold K
      by_cases h0 : rungOf x = 0
      · rw [h0, V_zero]; simp
      · have := V_pos (rungOf x) (by omega)
        cases negOf x
        · rw [if_neg (by simp; omega)]
          simp
        · rw [if_neg (by simp; omega)]
          simp; omega
    rw [ea, es, rn_exact _ h, word_of x hx]
  · rw [add_inf x SIGN h1 (by decide), ← h1, Option.getD_some, word_of x hx]

/-- What is below: the difference has a sign. -/
theorem fless_fsub (x y : Nat) (hy : y < 2 ^ 64) (h1 : rungOf x < INF) (h2 : rungOf y < INF) : fless x y = fless (fsub x y) 0 := by
  have h2' : rungOf (flip y) < INF := by rw [rungOf_flip y hy]; exact h2
  have kf : K (flip y) = - K y := by
    unfold K; rw [rungOf_flip y hy, negOf_flip y hy]
    cases negOf y <;> simp
  have e : fsub x y = double.word (if K x - K y = 0 then negOf x && !negOf y else decide (K x - K y < 0)) (rn (K x - K y).natAbs 1) := by
    rw [fsub_flip x y hy]; unfold fadd
    rw [add_fin x (flip y) h1 h2', Option.getD_some, kf, negOf_flip y hy]; rfl
  have hr := rn_lt (K x - K y).natAbs 1
  have hle : rungOf (fsub x y) ≤ INF := by rw [e, rungOf_word _ _ hr]; exact rn_le _ _
  have k0 : K 0 = 0 := by decide
  rw [fless_key x y (by omega) (by omega), fless_key _ 0 hle (by decide), k0]
  unfold K at *
  rw [e, rungOf_word _ _ hr, negOf_word _ _ hr]
  obtain ⟨d, hd⟩ : ∃ d, d = (if negOf x = true then -(V (rungOf x) : Int) else (V (rungOf x) : Int)) - (if negOf y = true then -(V (rungOf y) : Int) else (V (rungOf y) : Int)) := ⟨_, rfl⟩
  rw [← hd]
  have hlt : (decide ((if negOf x = true then -(V (rungOf x) : Int) else (V (rungOf x) : Int)) < (if negOf y = true then -(V (rungOf y) : Int) else (V (rungOf y) : Int)))) = decide (d < 0) := decide_eq_decide.2 (by omega)
  rw [hlt]
  by_cases hz : d = 0
  · rw [hz]
    have : rn (0 : Int).natAbs 1 = 0 := rfl
    rw [this, V_zero]
    simp
  · rw [if_neg hz]
    have hv := V_pos _ (rn_pos d.natAbs (by omega))
    by_cases hn : d < 0
    · simp only [hn, decide_true, if_true]
      simp; omega
    · simp only [hn, decide_false, Bool.false_eq_true, if_false]
      simp
end Go.Proofs.YtfkdaimhdjaefaaDoor.Flt
