/- Whole numbers as rows of 32 bits, lowest first. -/
import Derived.Test.YtadlppllbebkdaaGreatDoorM6
namespace Go.Proofs.YtadlppllbebkdaaGreatDoor

def BB : Nat := 4294967296
def val : List Nat → Nat
  | [] => 0
  | x :: r => x + BB * val r
def Dig (l : List Nat) : Prop := ∀ x ∈ l, x < BB
/-- No zero last. -/
def Norm (l : List Nat) : Prop := l.length = 0 ∨ l.getD (l.length - 1) 0 ≠ 0

theorem BB_pow (n : Nat) : 0 < BB ^ n := Nat.pow_pos (by decide)

theorem val_append (l m : List Nat) : val (l ++ m) = val l + BB ^ l.length * val m := by
  induction l with
  | nil => simp [val]
  | cons x r ih =>
    simp only [List.cons_append, val, ih, List.length_cons, Nat.pow_succ]
    rw [Nat.mul_add, Nat.add_assoc, Nat.mul_comm (BB ^ r.length) BB, Nat.mul_assoc]

theorem val_snoc (l : List Nat) (x : Nat) : val (l ++ [x]) = val l + BB ^ l.length * x := by
  rw [val_append]; simp [val]

theorem val_lt (l : List Nat) (h : Dig l) : val l < BB ^ l.length := by
  induction l with
  | nil => simp [val]
  | cons x r ih =>
    have h1 := h x (by simp)
    have h2 := ih (fun y hy => h y (by simp [hy]))
    simp only [val, List.length_cons, Nat.pow_succ]
    have : BB * (val r + 1) ≤ BB * BB ^ r.length := Nat.mul_le_mul_left _ h2
    rw [Nat.mul_add, Nat.mul_one] at this
    rw [Nat.mul_comm (BB ^ r.length) BB]
    omega

theorem take_succ' (l : List Nat) (k : Nat) (h : k < l.length) : l.take (k + 1) = l.take k ++ [l.getD k 0] := by
  rw [List.take_succ_eq_append_getElem h]
  simp [List.getD, h]

theorem val_take_succ (l : List Nat) (k : Nat) (h : k < l.length) : val (l.take (k + 1)) = val (l.take k) + BB ^ k * l.getD k 0 := by
  rw [take_succ' l k h, val_snoc]
  have : (l.take k).length = k := by simp; omega
  rw [this]

theorem dig_getD (l : List Nat) (h : Dig l) (k : Nat) : l.getD k 0 < BB := by
  by_cases hk : k < l.length
  · have : l.getD k 0 = l[k] := by simp [List.getD, hk]
    rw [this]; exact h _ (List.getElem_mem hk)
  · have : l.getD k 0 = 0 := by simp [List.getD, Nat.le_of_not_lt hk]
    rw [this]; decide

theorem dig_take (l : List Nat) (h : Dig l) (k : Nat) : Dig (l.take k) := fun x hx => h x (List.mem_of_mem_take hx)
theorem dig_snoc (l : List Nat) (x : Nat) (h : Dig l) (hx : x < BB) : Dig (l ++ [x]) := fun y hy => by
  rcases List.mem_append.1 hy with h1 | h1
  · exact h y h1
  · simp at h1; subst h1; exact hx

theorem norm_ge (l : List Nat) (hn : Norm l) (h0 : l.length ≠ 0) : BB ^ (l.length - 1) ≤ val l := by
  rcases hn with h | h
  · exact absurd h h0
  · have e : l = l.take (l.length - 1) ++ [l.getD (l.length - 1) 0] := by
      have := take_succ' l (l.length - 1) (by omega)
      rw [show l.length - 1 + 1 = l.length by omega, List.take_length] at this
      exact this
    rw [e, val_snoc]
    have hl : (l.take (l.length - 1)).length = l.length - 1 := by simp
    rw [← e, hl]
    have : BB ^ (l.length - 1) * 1 ≤ BB ^ (l.length - 1) * l.getD (l.length - 1) 0 := Nat.mul_le_mul_left _ (by omega)
    omega

/-- How long a number is. -/
theorem norm_len (l : List Nat) (hn : Norm l) (k : Nat) (h : val l < BB ^ k) : l.length ≤ k := by
  rcases Nat.lt_or_ge k l.length with h1 | h1
  · exfalso
    have h2 := norm_ge l hn (by omega)
    have h3 : BB ^ k ≤ BB ^ (l.length - 1) := Nat.pow_le_pow_right (by decide) (by omega)
    omega
  · exact h1

theorem norm_zero (l : List Nat) (hn : Norm l) : l.length = 0 ↔ val l = 0 := by
  constructor
  · intro h
    have : l = [] := List.eq_nil_of_length_eq_zero h
    rw [this]; rfl
  · intro h
    rcases Nat.eq_zero_or_pos l.length with h1 | h1
    · exact h1
    · have := norm_ge l hn (by omega)
      have := BB_pow (l.length - 1)
      omega

/-- Longer is greater. -/
theorem val_lt_len (l m : List Nat) (hm : Norm m) (dl : Dig l) (h : l.length < m.length) : val l < val m := by
  have h1 := val_lt l dl
  have h2 := norm_ge m hm (by omega)
  have h3 : BB ^ l.length ≤ BB ^ (m.length - 1) := Nat.pow_le_pow_right (by decide) (by omega)
  omega

theorem val_drop (l : List Nat) (k : Nat) (h : k ≤ l.length) : val l = val (l.take k) + BB ^ k * val (l.drop k) := by
  have e : val l = val (l.take k ++ l.drop k) := by rw [List.take_append_drop]
  rw [e, val_append]
  have hl : (l.take k).length = k := by simp; omega
  rw [hl]

theorem drop_cons (l : List Nat) (k : Nat) (h : k < l.length) : l.drop k = l.getD k 0 :: l.drop (k + 1) := by
  rw [List.drop_eq_getElem_cons h]
  simp [List.getD, h]

/-- Two of one length, alike above the place k: the place decides. -/
theorem val_top (l m : List Nat) (k : Nat) (dl : Dig l) (hl : k < l.length) (hm : k < m.length) (ha : l.drop (k + 1) = m.drop (k + 1)) (hlt : l.getD k 0 < m.getD k 0) : val l < val m := by
  rw [val_drop l k (by omega), val_drop m k (by omega), drop_cons l k hl, drop_cons m k hm, ha]
  simp only [val]
  have h1 := val_lt (l.take k) (dig_take l dl k)
  have e1 : (l.take k).length = k := by simp; omega
  rw [e1] at h1
  have h2 : BB ^ k * (l.getD k 0 + BB * val (m.drop (k + 1)) + 1) ≤ BB ^ k * (m.getD k 0 + BB * val (m.drop (k + 1))) := Nat.mul_le_mul_left _ (by omega)
  rw [Nat.mul_add (BB ^ k) (l.getD k 0 + BB * val (m.drop (k + 1))) 1, Nat.mul_one] at h2
  omega

theorem val_zeros (n : Nat) : val (List.replicate n 0) = 0 := by
  induction n with
  | zero => rfl
  | succ n ih => rw [List.replicate_succ]; simp [val, ih]

theorem BB_two (n : Nat) : BB ^ n = 2 ^ (32 * n) := by
  rw [Nat.pow_mul]; rfl

/-- One more digit of a product. -/
theorem times_step (V P C x m k : Nat) (h : V + BB ^ k * C = m * P) : V + BB ^ k * ((C + x * m) % BB) + BB ^ (k + 1) * ((C + x * m) / BB) = m * (P + BB ^ k * x) := by
  have e := Nat.div_add_mod (C + x * m) BB
  have e2 : BB ^ (k + 1) * ((C + x * m) / BB) = BB ^ k * (BB * ((C + x * m) / BB)) := by rw [Nat.pow_succ, Nat.mul_assoc]
  have e3 : BB ^ k * ((C + x * m) % BB) + BB ^ k * (BB * ((C + x * m) / BB)) = BB ^ k * (C + x * m) := by rw [← Nat.mul_add, Nat.add_comm, e]
  rw [e2, Nat.add_assoc, e3, Nat.mul_add, ← Nat.add_assoc, h, Nat.mul_add]
  have e5 : BB ^ k * (x * m) = m * (BB ^ k * x) := by rw [Nat.mul_comm x m, Nat.mul_left_comm]
  rw [e5]

/-- .. of a sum. -/
theorem sum_step (V S C t k : Nat) (h : V + BB ^ k * C = S) : V + BB ^ k * ((C + t) % BB) + BB ^ (k + 1) * ((C + t) / BB) = S + BB ^ k * t := by
  have e := Nat.div_add_mod (C + t) BB
  have e2 : BB ^ (k + 1) * ((C + t) / BB) = BB ^ k * (BB * ((C + t) / BB)) := by rw [Nat.pow_succ, Nat.mul_assoc]
  have e3 : BB ^ k * ((C + t) % BB) + BB ^ k * (BB * ((C + t) / BB)) = BB ^ k * (C + t) := by rw [← Nat.mul_add, Nat.add_comm, e]
  rw [e2, Nat.add_assoc, e3, Nat.mul_add, ← Nat.add_assoc, h]

/-- .. of a difference; d is what is owed (0 or 1). -/
theorem less_step (V A S d x y k : Nat) (_hd : d ≤ 1) (_hx : x < BB) (_hy : y < BB) (h : V + S = A + BB ^ k * d) :
    V + BB ^ k * ((x + BB - y - d) % BB) + (S + BB ^ k * y) = A + BB ^ k * x + BB ^ (k + 1) * (if x < y + d then 1 else 0) := by
  have hB : BB = 4294967296 := rfl
  have e2 : BB ^ (k + 1) * (if x < y + d then 1 else 0) = BB ^ k * (BB * (if x < y + d then 1 else 0)) := by rw [Nat.pow_succ, Nat.mul_assoc]
  rw [e2]
  have e3 : (x + BB - y - d) % BB + y + d = x + BB * (if x < y + d then 1 else 0) := by
    split
    · rw [Nat.mod_eq_of_lt (by omega)]; omega
    · have : x + BB - y - d = (x - y - d) + BB := by omega
      rw [this, Nat.add_mod_right, Nat.mod_eq_of_lt (by omega)]; omega
  have e4 := congrArg (BB ^ k * ·) e3
  simp only [Nat.mul_add] at e4
  omega
end Go.Proofs.YtadlppllbebkdaaGreatDoor
