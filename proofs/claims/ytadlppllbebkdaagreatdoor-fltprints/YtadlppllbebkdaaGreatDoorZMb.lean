/- Whole numbers as rows of 32 bits, lowest first. -/
import Derived.Test.YtadlppllbebkdaaGreatDoorZMa
import Derived.Test.YtadlppllbebkdaaGreatDoorZUb
namespace Go.Proofs.YtadlppllbebkdaaGreatDoor

def BB : Nat := 4294967296
def val : List Nat → Nat
  | [] => 0
  | x :: r => x + BB * val r
def Dig (l : List Nat) : Prop := ∀ x ∈ l, x < BB
/-- No zero last. -/
def Norm (l : List Nat) : Prop := l.length = 0 ∨ l.getD (l.length - 1) 0 ≠ 0

theorem BB_pow (n : Nat) : 0 < BB ^ n := Nat.pow_pos (by decide)

theorem val_append (l m : List Nat) : val (l ++ m) = val l + BB ^ l.length * val m := by
  induction l with
  | nil => simp [val]
  | cons x r ih =>
    simp only [List.cons_append, val, ih, List.length_cons, Nat.pow_succ]
    rw [Nat.mul_add, Nat.add_assoc, Nat.mul_comm (BB ^ r.length) BB, Nat.mul_assoc]

theorem val_snoc (l : List Nat) (x : Nat) : val (l ++ [x]) = val l + BB ^ l.length * x := by
  rw [val_append]; simp [val]

theorem val_lt (l : List Nat) (h : Dig l) : val l < BB ^ l.length := by
  induction l with
  | nil => simp [val]
  | cons x r ih =>
    have h1 := h x (by simp)
    have h2 := ih (fun y hy => h y (by simp [hy]))
    simp only [val, List.length_cons, Nat.pow_succ]
    have : BB * (val r + 1) ≤ BB * BB ^ r.length := Nat.mul_le_mul_left _ h2
    rw [Nat.mul_add, Nat.mul_one] at this
    rw [Nat.mul_comm (BB ^ r.length) BB]
    omega

theorem take_succ' (l : List Nat) (k : Nat) (h : k < l.length) : l.take (k + 1) = l.take k ++ [l.getD k 0] := by
  rw [List.take_succ_eq_append_getElem h]
  simp [List.getD, h]

theorem val_take_succ (l : List Nat) (k : Nat) (h : k < l.length) : val (l.take (k + 1)) = val (l.take k) + BB ^ k * l.getD k 0 := by
  rw [take_succ' l k h, val_snoc]
  have : (l.take k).length = k := by simp; omega
  rw [this]

theorem dig_getD (l : List Nat) (h : Dig l) (k : Nat) : l.getD k 0 < BB := by
  by_cases hk : k < l.length
  · have : l.getD k 0 = l[k] := by simp [List.getD, hk]
    rw [this]; exact h _ (List.getElem_mem hk)
  · have : l.getD k 0 = 0 := by simp [List.getD, Nat.le_of_not_lt hk]
    rw [this]; decide

theorem dig_take (l : List Nat) (h : Dig l) (k : Nat) : Dig (l.take k) := fun x hx => h x (List.mem_of_mem_take hx)
theorem dig_snoc (l : List Nat) (x : Nat) (h : Dig l) (hx : x < BB) : Dig (l ++ [x]) := fun y hy => by
  rcases List.mem_append.1 hy with h1 | h1
  · exact h y h1
  · simp at h1; subst h1; exact hx

theorem norm_ge (l : List Nat) (hn : Norm l) (h0 : l.length ≠ 0) : BB ^ (l.length - 1) ≤ val l := by
  rcases hn with h | h
  · exact absurd h h0
  · have e : l = l.take (l.length - 1) ++ [l.getD (l.length - 1) 0] := by
      have := take_succ' l (l.length - 1) (by omega)
      rw [show l.length - 1 + 1 = l.length by omega, List.take_length] at this
      exact this
    rw [e, val_snoc]
    have hl : (l.take (l.length - 1)).length = l.length - 1 := by simp
    rw [← e, hl]
    have : BB ^ (l.length - 1) * 1 ≤ BB ^ (l.length - 1) * l.getD (l.length - 1) 0 := Nat.mul_le_mul_left _ (by omega)
    omega

/-- How long a number is. -/
theorem norm_len (l : List Nat) (hn : Norm l) (k : Nat) (h : val l < BB ^ k) : l.length ≤ k := by
  rcases Nat.lt_or_ge k l.length with h1 | h1
  · exfalso
    have h2 := norm_ge l hn (by omega)
    have h3 : BB ^ k ≤ BB ^ (l.length - 1) := Nat.pow_le_pow_right (by decide) (by omega)
    omega
  · exact h1

theorem norm_zero (l : List Nat) (hn : Norm l) : l.length = 0 ↔ val l = 0 := by
  constructor
  · intro h
    have : l = [] := List.eq_nil_of_length_eq_zero h
    rw [this]; rfl
  · intro h
    rcases Nat.eq_zero_or_pos l.length with h1 | h1
    · exact h1
    · have := norm_ge l hn (by omega)
      have := BB_pow (l.length - 1)
      omega

/-- Longer is greater. -/
theorem val_lt_len (l m : List Nat) (hm : Norm m) (dl : Dig l) (h : l.length < m.length) : val l < val m := by
  have h1 := val_lt l dl
  have h2 := norm_ge m hm (by omega)
  have h3 : BB ^ l.length ≤ BB ^ (m.length - 1) := Nat.pow_le_pow_right (by decide) (by omega)
  omega

theorem val_drop (l : List Nat) (k : Nat) (h : k ≤ l.length) : val l = val (l.take k) + BB ^ k * val (l.drop k) := by
  have e : val l = val (l.take k ++ l.drop k) := by rw [List.take_append_drop]
  rw [e, val_append]
  have hl : (l.take k).length = k := by simp; omega
  rw [hl]

theorem drop_cons (l : List Nat) (k : Nat) (h : k < l.length) : l.drop k = l.getD k 0 :: l.drop (k + 1) := by
  rw [List.drop_eq_getElem_cons h]
  simp [List.getD, h]

/-- Two of one length, alike above the place k: the place decides. -/
theorem val_top (l m : List Nat) (k : Nat) (dl : Dig l) (hl : k < l.length) (hm : k < m.length) (ha : l.drop (k + 1) = m.drop (k + 1)) (hlt : l.getD k 0 < m.getD k 0) : val l < val m := by
  rw [val_drop l k (by omega), val_drop m k (by omega), drop_cons l k hl, drop_cons m k hm, ha]
  simp only [val]
  have h1 := val_lt (l.take k) (dig_take l dl k)
  have e1 : (l.take k).length = k := by simp; omega
  rw [e1] at h1
  have h2 : BB ^ k * (l.getD k 0 + BB * val (m.drop (k + 1)) + 1) ≤ BB ^ k * (m.getD k 0 + BB * val (m.drop (k + 1))) := Nat.mul_le_mul_left _ (by omega)
  rw [Nat.mul_add (BB ^ k) (l.getD k 0 + BB * val (m.drop (k + 1))) 1, Nat.mul_one] at h2
  omega

theorem val_zeros (n : Nat) : val (List.replicate n 0) = 0 := by
  induction n with
  | zero => rfl
  | succ n ih => rw [List.replicate_succ]; simp [val, ih]

theorem BB_two (n : Nat) : BB ^ n = 2 ^ (32 * n) := by
  rw [Nat.pow_mul]; rfl

/-- One more digit of a product. -/
theorem times_step (V P C x m k : Nat) (h : V + BB ^ k * C = m * P) : V + BB ^ k * ((C + x * m) % BB) + BB ^ (k + 1) * ((C + x * m) / BB) = m * (P + BB ^ k * x) := by
  have e := Nat.div_add_mod (C + x * m) BB
  have e2 : BB ^ (k + 1) * ((C + x * m) / BB) = BB ^ k * (BB * ((C + x * m) / BB)) := by rw [Nat.pow_succ, Nat.mul_assoc]
  have e3 : BB ^ k * ((C + x * m) % BB) + BB ^ k * (BB * ((C + x * m) / BB)) = BB ^ k * (C + x * m) := by rw [← Nat.mul_add, Nat.add_comm, e]
  rw [e2, Nat.add_assoc, e3, Nat.mul_add, ← Nat.add_assoc, h, Nat.mul_add]
  have e5 : BB ^ k * (x * m) = m * (BB ^ k * x) := by rw [Nat.mul_comm x m, Nat.mul_left_comm]
  rw [e5]

/-- .. of a sum. -/
theorem sum_step (V S C t k : Nat) (h : V + BB ^ k * C = S) : V + BB ^ k * ((C + t) % BB) + BB ^ (k + 1) * ((C + t) / BB) = S + BB ^ k * t := by
  have e := Nat.div_add_mod (C + t) BB
  have e2 : BB ^ (k + 1) * ((C + t) / BB) = BB ^ k * (BB * ((C + t) / BB)) := by rw [Nat.pow_succ, Nat.mul_assoc]
  have e3 : BB ^ k * ((C + t) % BB) + BB ^ k * (BB * ((C + t) / BB)) = BB ^ k * (C + t) := by rw [← Nat.mul_add, Nat.add_comm, e]
  rw [e2, Nat.add_assoc, e3, Nat.mul_add, ← Nat.add_assoc, h]

/-- .. of a difference; d is what is owed (0 or 1). -/
theorem less_step (V A S d x y k : Nat) (_hd : d ≤ 1) (_hx : x < BB) (_hy : y < BB) (h : V + S = A + BB ^ k * d) :
    V + BB ^ k * ((x + BB - y - d) % BB) + (S + BB ^ k * y) = A + BB ^ k * x + BB ^ (k + 1) * (if x < y + d then 1 else 0) := by
  have hB : BB = 4294967296 := rfl
  have e2 : BB ^ (k + 1) * (if x < y + d then 1 else 0) = BB ^ k * (BB * (if x < y + d then 1 else 0)) := by rw [Nat.pow_succ, Nat.mul_assoc]
  rw [e2]
  have e3 : (x + BB - y - d) % BB + y + d = x + BB * (if x < y + d then 1 else 0) := by
    split
    · rw [Nat.mod_eq_of_lt (by omega)]; omega
    · have : x + BB - y - d = (x - y - d) + BB := by omega
      rw [this, Nat.add_mod_right, Nat.mod_eq_of_lt (by omega)]; omega
  have e4 := congrArg (BB ^ k * ·) e3
  simp only [Nat.mul_add] at e4
  omega
end Go.Proofs.YtadlppllbebkdaaGreatDoor

/- Whole numbers, bit by bit. -/
namespace Go.Proofs.YtadlppllbebkdaaGreatDoor

/-- How many digits k bits take. -/
def words (k : Nat) : Nat := (k + 31) / 32

theorem words_mul (k : Nat) (h : k % 32 = 0) : words k = k / 32 ∧ words (k + 1) = k / 32 + 1 := by unfold words; omega
theorem words_not (k : Nat) (h : k % 32 ≠ 0) : words k = k / 32 + 1 ∧ words (k + 1) = k / 32 + 1 := by unfold words; omega

/-- L are the first k bits of V. -/
def Bits (L : List Nat) (k V : Nat) : Prop := L.length = words k ∧ Dig L ∧ val L = V % 2 ^ k

theorem bits_zero (V : Nat) : Bits [] 0 V := ⟨rfl, fun y hy => by simp at hy, by simp [val, Nat.mod_one]⟩

theorem mod_succ (V k : Nat) : V % 2 ^ (k + 1) = V % 2 ^ k + 2 ^ k * (V / 2 ^ k % 2) := by
  rw [Nat.pow_succ, Nat.mod_mul]

theorem bits_push (L : List Nat) (k V z : Nat) (h : Bits L k V) (hk : k % 32 = 0) (hz : z = V / 2 ^ k % 2) : Bits (L ++ [z]) (k + 1) V := by
  obtain ⟨h1, h2, h3⟩ := h
  obtain ⟨w1, w2⟩ := words_mul k hk
  have hz2 : z < 2 := by rw [hz]; exact Nat.mod_lt _ (by decide)
  refine ⟨by simp [h1, w1, w2], dig_snoc L z h2 (Nat.lt_trans hz2 (by decide)), ?_⟩
  rw [val_snoc, h3, mod_succ, h1, w1, ← hz, BB_two]
  have : 32 * (k / 32) = k := by omega
  rw [this]

theorem val_set (L : List Nat) (t x : Nat) (ht : t < L.length) : val (L.set t (L.getD t 0 + x)) = val L + BB ^ t * x := by
  induction L generalizing t with
  | nil => simp at ht
  | cons a r ih =>
    cases t with
    | zero => simp [val]; omega
    | succ t =>
      have := ih t (by simpa using ht)
      simp only [List.set_cons_succ, val, List.getD_cons_succ]
      rw [this, Nat.mul_add, Nat.pow_succ, ← Nat.add_assoc, ← Nat.mul_assoc, Nat.mul_comm (BB ^ t) BB]

theorem top_small (L : List Nat) (k V : Nat) (h : Bits L k V) (hk : k % 32 ≠ 0) : L.getD (k / 32) 0 < 2 ^ (k % 32) := by
  obtain ⟨h1, h2, h3⟩ := h
  obtain ⟨w1, -⟩ := words_not k hk
  rw [w1] at h1
  have e := val_take_succ L (k / 32) (by omega)
  rw [← h1, List.take_length] at e
  have hlt : val L < 2 ^ k := by rw [h3]; exact Nat.mod_lt _ (Nat.two_pow_pos k)
  have hk2 : k = 32 * (k / 32) + k % 32 := by omega
  have hp : 2 ^ k = BB ^ (k / 32) * 2 ^ (k % 32) := by
    rw [BB_two, ← pow_add', ← hk2]
  rw [hp] at hlt
  rcases Nat.lt_or_ge (L.getD (k / 32) 0) (2 ^ (k % 32)) with h | h
  · exact h
  · exfalso
    have := Nat.mul_le_mul_left (BB ^ (k / 32)) h
    omega

theorem bits_set (L : List Nat) (k V z : Nat) (h : Bits L k V) (hk : k % 32 ≠ 0) (hz : z = V / 2 ^ k % 2) : Bits (L.set (k / 32) (L.getD (k / 32) 0 + z * 2 ^ (k % 32))) (k + 1) V := by
  have hs := top_small L k V h hk
  obtain ⟨h1, h2, h3⟩ := h
  obtain ⟨w1, w2⟩ := words_not k hk
  have hz2 : z < 2 := by rw [hz]; exact Nat.mod_lt _ (by decide)
  have hp : 2 ^ (k % 32) ≤ 2 ^ 31 := Nat.pow_le_pow_right (by decide) (by omega)
  have hlt : L.getD (k / 32) 0 + z * 2 ^ (k % 32) < BB := by
    have : z * 2 ^ (k % 32) ≤ 1 * 2 ^ (k % 32) := Nat.mul_le_mul_right _ (by omega)
    unfold BB; omega
  refine ⟨by rw [List.length_set, h1, w1, w2], fun y hy => ?_, ?_⟩
  · rcases List.mem_or_eq_of_mem_set hy with h | h
    · exact h2 y h
    · rw [h]; exact hlt
  · rw [val_set L _ _ (by omega), h3, mod_succ, ← hz, BB_two]
    have hk2 : k = 32 * (k / 32) + k % 32 := by omega
    have : 2 ^ (32 * (k / 32)) * (z * 2 ^ (k % 32)) = 2 ^ k * z := by
      rw [Nat.mul_comm z, ← Nat.mul_assoc, ← pow_add', ← hk2]
    rw [this]

theorem or_bit32 (x z r : Nat) (hx : x < 2 ^ r) : x ||| (z * 2 ^ r) = x + z * 2 ^ r := by
  have h := Nat.shiftLeft_add_eq_or_of_lt hx z
  rw [Nat.shiftLeft_eq] at h
  rw [Nat.or_comm, ← h, Nat.add_comm]

/-- A digit's bit is the number's. -/
theorem digit_bit (l : List Nat) (i : Nat) (hd : i / 32 < l.length) (hdig : Dig l) : l.getD (i / 32) 0 / 2 ^ (i % 32) % 2 = val l / 2 ^ i % 2 := by
  have e := val_drop l (i / 32) (by omega)
  have h1 := val_lt (l.take (i / 32)) (dig_take l hdig _)
  have h2 : (l.take (i / 32)).length = i / 32 := by simp; omega
  rw [h2] at h1
  have hi : i = 32 * (i / 32) + i % 32 := by omega
  have hp : 2 ^ i = BB ^ (i / 32) * 2 ^ (i % 32) := by rw [BB_two, ← pow_add', ← hi]
  have e2 : val l / BB ^ (i / 32) = val (l.drop (i / 32)) := by
    rw [e, Nat.add_comm, Nat.mul_add_div (BB_pow _), Nat.div_eq_of_lt h1, Nat.add_zero]
  rw [hp, ← Nat.div_div_eq_div_mul, e2, drop_cons l _ hd]
  simp only [val]
  have hr : i % 32 < 32 := Nat.mod_lt _ (by decide)
  have hB : BB = 2 ^ (31 - i % 32) * 2 * 2 ^ (i % 32) := by
    rw [Nat.mul_assoc, Nat.mul_comm 2, ← Nat.pow_succ, ← pow_add']
    have : 31 - i % 32 + (i % 32).succ = 32 := by omega
    rw [this]; rfl
  have e3 : l.getD (i / 32) 0 + BB * val (l.drop (i / 32 + 1)) = l.getD (i / 32) 0 + 2 ^ (i % 32) * (2 * (2 ^ (31 - i % 32) * val (l.drop (i / 32 + 1)))) := by
    rw [hB]
    congr 1
    rw [Nat.mul_comm (2 ^ (31 - i % 32) * 2), Nat.mul_comm (2 ^ (31 - i % 32)) 2, Nat.mul_assoc, Nat.mul_assoc]
  rw [e3, Nat.add_mul_div_left _ _ (Nat.two_pow_pos _), Nat.add_mul_mod_self_left]

theorem bits_end (L : List Nat) (k V : Nat) (h : Bits L k V) (hV : V < 2 ^ k) : val L = V := by
  rw [h.2.2, Nat.mod_eq_of_lt hV]
end Go.Proofs.YtadlppllbebkdaaGreatDoor

/- Rounding as the document's answer does it. -/
namespace Go.Proofs.YtadlppllbebkdaaGreatDoor

def bitsM (n : Nat) : Nat := if n = 0 then 0 else n.log2 + 1

/-- The parts of a rung. -/
theorem rung_parts (mag : Nat) (place : Int) (h0 : mag ≠ 0) (L : Int) (T : Nat) (hL : L = max (place + (mag.log2 : Int) - 52) (-1074)) (hT : (L + 1074).toNat = T) :
    ((mag * 2 ^ (place + 1074).toNat) / (2 ^ (-(place + 1074)).toNat)).log2 - 52 = T ∧
    rhe (mag * 2 ^ (place - L).toNat) (2 ^ (L - place).toNat) = rhe (mag * 2 ^ (place + 1074).toNat) (2 ^ (-(place + 1074)).toNat * 2 ^ T) := by
  have hLT : L = (T : Int) - 1074 := by omega
  constructor
  · by_cases hz : 0 ≤ place + 1074
    · have : (-(place + 1074)).toNat = 0 := by omega
      rw [this, Nat.pow_zero, Nat.div_one, log2_mul_pow _ _ h0]
      omega
    · have : (place + 1074).toNat = 0 := by omega
      rw [this, Nat.pow_zero, Nat.mul_one]
      by_cases hk : (-(place + 1074)).toNat ≤ mag.log2
      · rw [log2_div_pow _ _ hk h0]; omega
      · have hlt : mag / 2 ^ (-(place + 1074)).toNat = 0 := by
          apply Nat.div_eq_of_lt
          have h1 : mag < 2 ^ (mag.log2 + 1) := Nat.lt_log2_self
          have h2 : 2 ^ (mag.log2 + 1) ≤ 2 ^ (-(place + 1074)).toNat := Nat.pow_le_pow_right (by decide) (by omega)
          omega
        rw [hlt]
        have : Nat.log2 0 = 0 := by decide
        rw [this]; omega
  · rw [← pow_add']
    obtain ⟨a, ha⟩ : ∃ a, a = (place + 1074).toNat := ⟨_, rfl⟩
    obtain ⟨b, hb⟩ : ∃ b, b = (-(place + 1074)).toNat := ⟨_, rfl⟩
    obtain ⟨u, hu⟩ : ∃ u, u = (place - L).toNat := ⟨_, rfl⟩
    obtain ⟨d, hd⟩ : ∃ d, d = (L - place).toNat := ⟨_, rfl⟩
    rw [← ha, ← hb, ← hu, ← hd]
    have hs : u + (b + T) = a + d := by omega
    by_cases hud : u = 0
    · subst hud
      rw [Nat.pow_zero, Nat.mul_one]
      have h3 : b + T = d + a := by omega
      rw [h3, pow_add' d a, rhe_scale _ _ _ (Nat.two_pow_pos a)]
    · have hd0 : d = 0 := by omega
      subst hd0
      have h3 : a = u + (b + T) := by omega
      rw [h3, pow_add' u (b + T), ← Nat.mul_assoc, Nat.pow_zero, rhe_one, rhe_exact _ _ (Nat.two_pow_pos (b + T))]

/-- How far the last bit that is kept lies. -/
def offR (Q : Nat) (e : Int) : Int := max ((bitsM Q : Int) - 53) (-1074 - e)
/-- What is kept. -/
def keptR (Q : Nat) (s : Bool) (e : Int) : Nat := if offR Q e ≤ 0 then Q * 2 ^ (-offR Q e).toNat else keep Q s (offR Q e).toNat
def rungR (Q : Nat) (s : Bool) (e : Int) : Nat :=
  if keptR Q s e < 2 ^ 52 then keptR Q s e
  else if 2047 ≤ e + offR Q e + 1075 then INF
  else min ((e + offR Q e + 1075).toNat * 2 ^ 52 + (keptR Q s e - 2 ^ 52)) INF

theorem log2_double (Q : Nat) (s : Bool) (h : Q ≠ 0) : (2 * Q + s.toNat).log2 = Q.log2 + 1 := by
  have hs : s.toNat ≤ 1 := by cases s <;> simp
  have h1 := Nat.log2_self_le h
  have h2 : Q < 2 ^ (Q.log2 + 1) := Nat.lt_log2_self
  refine (Nat.log2_eq_iff (by omega)).2 ⟨?_, ?_⟩
  · rw [Nat.pow_succ]; omega
  · rw [Nat.pow_succ]; omega

theorem rungR_rn (Q : Nat) (s : Bool) (e : Int) (hQ : Q ≠ 0) (hs : s = true → 2 ^ 53 ≤ Q) :
    rungR Q s e = rn ((2 * Q + s.toNat) * 2 ^ (e + 1074).toNat) (2 * 2 ^ (-(e + 1074)).toNat) := by
  have hmag : 2 * Q + s.toNat ≠ 0 := by omega
  obtain ⟨L, hL⟩ : ∃ L, L = max (e - 1 + ((2 * Q + s.toNat).log2 : Int) - 52) (-1074) := ⟨_, rfl⟩
  obtain ⟨T, hT⟩ : ∃ T, (L + 1074).toNat = T := ⟨_, rfl⟩
  obtain ⟨p1, p2⟩ := rung_parts (2 * Q + s.toNat) (e - 1) hmag L T hL hT
  rw [log2_double Q s hQ] at hL
  have hoff : offR Q e = L - e := by
    unfold offR bitsM
    rw [if_neg hQ]; omega
  -- what is kept
  have hk : keptR Q s e = rhe ((2 * Q + s.toNat) * 2 ^ (e - 1 - L).toNat) (2 ^ (L - (e - 1)).toNat) := by
    unfold keptR
    rw [hoff]
    by_cases h0 : L - e ≤ 0
    · rw [if_pos h0]
      have hsf : s = false := by
        cases s
        · rfl
        · exfalso
          have h1 : 53 ≤ Q.log2 := (Nat.le_log2 hQ).2 (hs rfl)
          omega
      subst hsf
      simp only [Bool.toNat_false, Nat.add_zero]
      by_cases h1 : L - e = 0
      · have e1 : (e - 1 - L).toNat = 0 := by omega
        have e2 : (L - (e - 1)).toNat = 1 := by omega
        have e3 : (-(L - e)).toNat = 0 := by omega
        rw [e1, e2, e3, Nat.pow_zero, Nat.mul_one, Nat.mul_one, Nat.mul_comm 2 Q]
        exact (rhe_exact Q (2 ^ 1) (by decide)).symm
      · obtain ⟨u, hu⟩ : ∃ u, u = (e - 1 - L).toNat := ⟨_, rfl⟩
        have e2 : (L - (e - 1)).toNat = 0 := by omega
        have e3 : (-(L - e)).toNat = u + 1 := by omega
        rw [← hu, e2, e3, Nat.pow_zero, rhe_one, Nat.pow_succ, Nat.mul_comm 2 Q, Nat.mul_assoc, Nat.mul_comm 2]
    · rw [if_neg h0]
      have e1 : (e - 1 - L).toNat = 0 := by omega
      obtain ⟨d, hd⟩ : ∃ d, d = (L - e).toNat := ⟨_, rfl⟩
      have e2 : (L - (e - 1)).toNat = d + 1 := by omega
      rw [← hd, e1, e2, Nat.pow_zero, Nat.mul_one, Nat.pow_succ, Nat.mul_comm (2 ^ d) 2, rhe_keep _ 2 d (by decide) (by omega)]
      have hq2 : (2 * Q + s.toNat) / 2 = Q := by cases s <;> simp <;> omega
      have hq3 : ((2 * Q + s.toNat) % 2 != 0) = s := by
        cases s
        · simp
        · have : (2 * Q + Bool.toNat true) % 2 = 1 := by simp only [Bool.toNat_true]; omega
          rw [this]; rfl
      rw [hq2, hq3]
  rw [p2] at hk
  -- the same fraction
  have hfr : rn ((2 * Q + s.toNat) * 2 ^ (e + 1074).toNat) (2 * 2 ^ (-(e + 1074)).toNat) = rn ((2 * Q + s.toNat) * 2 ^ (e - 1 + 1074).toNat) (2 ^ (-(e - 1 + 1074)).toNat) := by
    by_cases ha : 1 ≤ e + 1074
    · obtain ⟨u, hu⟩ : ∃ u, u = (e - 1 + 1074).toNat := ⟨_, rfl⟩
      have e1 : (e + 1074).toNat = u + 1 := by omega
      have e2 : (-(e + 1074)).toNat = 0 := by omega
      have e3 : (-(e - 1 + 1074)).toNat = 0 := by omega
      rw [← hu, e1, e2, e3, Nat.pow_zero, Nat.mul_one, Nat.pow_succ, ← Nat.mul_assoc]
      have := rn_scale ((2 * Q + s.toNat) * 2 ^ u) 1 2 (by decide)
      rw [Nat.one_mul] at this
      exact this
    · obtain ⟨u, hu⟩ : ∃ u, u = (-(e + 1074)).toNat := ⟨_, rfl⟩
      have e1 : (e + 1074).toNat = 0 := by omega
      have e2 : (e - 1 + 1074).toNat = 0 := by omega
      have e3 : (-(e - 1 + 1074)).toNat = u + 1 := by omega
      rw [← hu, e1, e2, e3, Nat.pow_succ, Nat.mul_comm 2 (2 ^ u)]
  rw [hfr]
  obtain ⟨A, hA⟩ : ∃ A, A = (2 * Q + s.toNat) * 2 ^ (e - 1 + 1074).toNat := ⟨_, rfl⟩
  obtain ⟨Bd, hBd⟩ : ∃ B, B = 2 ^ (-(e - 1 + 1074)).toNat := ⟨_, rfl⟩
  rw [← hA, ← hBd] at p1 hk ⊢
  have hB0 : 0 < Bd := by rw [hBd]; exact Nat.two_pow_pos _
  have hA0 : A ≠ 0 := by rw [hA]; exact Nat.mul_ne_zero hmag (by have := Nat.two_pow_pos (e - 1 + 1074).toNat; omega)
  unfold rn
  rw [if_neg hA0, p1, ← hk]
  have hT2 : e + offR Q e + 1074 = (T : Int) := by rw [hoff]; omega
  have hlow : T = 0 ∨ 2 ^ 52 ≤ keptR Q s e := by
    by_cases hT0 : T = 0
    · exact .inl hT0
    · right
      rw [hk]
      apply le_rhe _ _ _ (Nat.mul_pos hB0 (Nat.two_pow_pos T))
      have hl : (A / Bd).log2 = T + 52 := by omega
      have hne : A / Bd ≠ 0 := by
        intro h
        rw [h] at hl
        have : Nat.log2 0 = 0 := by decide
        omega
      have h1 := Nat.log2_self_le hne
      rw [hl] at h1
      have h2 := (Nat.le_div_iff_mul_le hB0).1 h1
      have e1 : 2 ^ 52 * (Bd * 2 ^ T) = 2 ^ (T + 52) * Bd := by
        rw [pow_add', Nat.mul_comm (2 ^ T), Nat.mul_assoc, Nat.mul_comm Bd]
      rw [e1]; exact h2
  have hI : INF = 2047 * 2 ^ 52 := rfl
  unfold rungR
  by_cases hc : keptR Q s e < 2 ^ 52
  · have hT0 : T = 0 := by omega
    rw [if_pos hc, hT0, Nat.zero_mul, Nat.zero_add]
    exact (Nat.min_eq_left (by omega)).symm
  · rw [if_neg hc]
    by_cases hd : 2047 ≤ e + offR Q e + 1075
    · rw [if_pos hd, hI]
      refine (Nat.min_eq_right ?_).symm
      have : 2046 ≤ T := by omega
      have := Nat.mul_le_mul_right (2 ^ 52) this
      omega
    · rw [if_neg hd]
      have e1 : (e + offR Q e + 1075).toNat = T + 1 := by omega
      have e2 : (T + 1) * 2 ^ 52 + (keptR Q s e - 2 ^ 52) = T * 2 ^ 52 + keptR Q s e := by omega
      rw [e1, e2, hI]
end Go.Proofs.YtadlppllbebkdaaGreatDoor

/- What the document's answer reckons, and the closed forms. -/
namespace Go.Proofs.YtadlppllbebkdaaGreatDoor
open Ieee

theorem rn_shift (A n u v u' v' : Nat) (h : u + v' = u' + v) : rn (A * 2 ^ u) (n * 2 ^ v) = rn (A * 2 ^ u') (n * 2 ^ v') := by
  rw [← rn_scale (A * 2 ^ u) (n * 2 ^ v) (2 ^ v') (Nat.two_pow_pos _), ← rn_scale (A * 2 ^ u') (n * 2 ^ v') (2 ^ v) (Nat.two_pow_pos _)]
  rw [Nat.mul_assoc, Nat.mul_assoc, Nat.mul_assoc, Nat.mul_assoc, ← pow_add', ← pow_add', ← pow_add', ← pow_add', h, Nat.add_comm v v']

/-- What 'rounded' tells of a whole number, without a rest. -/
theorem rungQ_false (Q : Nat) (e : Int) (u v : Nat) (h : (u : Int) - v = e + 1074) : (if Q = 0 then 0 else rungR Q false e) = rn (Q * 2 ^ u) (2 ^ v) := by
  by_cases h0 : Q = 0
  · rw [if_pos h0, h0, Nat.zero_mul]; rfl
  · rw [if_neg h0, rungR_rn Q false e h0 (by simp)]
    simp only [Bool.toNat_false, Nat.add_zero]
    rw [Nat.mul_comm 2 Q, Nat.mul_right_comm, Nat.mul_comm 2 (2 ^ _), rn_scale _ _ 2 (by decide)]
    have := rn_shift Q 1 (e + 1074).toNat (-(e + 1074)).toNat u v (by omega)
    rw [Nat.one_mul, Nat.one_mul] at this
    exact this

theorem mag_exp (r : Nat) (h : r < INF) : magOf r < 2 ^ 53 ∧ expOf r ≤ 2045 := by
  obtain ⟨h1, h2, h3⟩ := rung_pack r
  refine ⟨h2, ?_⟩
  have hI : INF = 2047 * 2 ^ 52 := rfl
  unfold expOf
  split
  · omega
  · omega

theorem mag_zero (r : Nat) : magOf r = 0 ↔ r = 0 := by
  unfold magOf
  split
  · exact Iff.rfl
  · omega

theorem word_sgn (s : Bool) (r : Nat) (h : r < 2 ^ 63) : negOf (double.word s r) = s ∧ rungOf (double.word s r) = r := ⟨negOf_word s r h, rungOf_word s r h⟩

/-- The sum. -/
theorem V_at (r k : Nat) (h : k ≤ expOf r) : V r = magOf r * 2 ^ (expOf r - k) * 2 ^ k := by
  unfold V
  rw [Nat.mul_assoc, ← pow_add', Nat.sub_add_cancel h]

theorem add_same (x y : Nat) (hx : rungOf x < INF) (hy : rungOf y < INF) (h0 : ¬ (rungOf x = 0 ∧ rungOf y = 0)) (hs : negOf x = negOf y) (k : Nat) (h1 : k ≤ expOf (rungOf x)) (h2 : k ≤ expOf (rungOf y)) :
    fadd x y = double.word (negOf x) (rn ((magOf (rungOf x) * 2 ^ (expOf (rungOf x) - k) + magOf (rungOf y) * 2 ^ (expOf (rungOf y) - k)) * 2 ^ k) 1) := by
  unfold fadd
  rw [add_fin x y hx hy, Nat.add_mul, ← V_at _ k h1, ← V_at _ k h2]
  have p : 0 < V (rungOf x) + V (rungOf y) := by
    by_cases hz : rungOf x = 0
    · have := V_pos (rungOf y) (by omega); omega
    · have := V_pos (rungOf x) (by omega); omega
  unfold K
  rw [← hs]
  cases negOf x
  · simp only [Bool.false_eq_true, if_false]
    rw [if_neg (by omega), show decide ((V (rungOf x) : Int) + (V (rungOf y) : Int) < 0) = false by rw [decide_eq_false_iff_not]; omega]
    rw [show ((V (rungOf x) : Int) + (V (rungOf y) : Int)).natAbs = V (rungOf x) + V (rungOf y) by omega]
    rfl
  · simp only [if_true]
    rw [if_neg (by omega), show decide (-(V (rungOf x) : Int) + -(V (rungOf y) : Int) < 0) = true by rw [decide_eq_true_iff]; omega]
    rw [show (-(V (rungOf x) : Int) + -(V (rungOf y) : Int)).natAbs = V (rungOf x) + V (rungOf y) by omega]
    rfl

theorem add_zeros (x y : Nat) (hx : rungOf x = 0) (hy : rungOf y = 0) : fadd x y = double.word (negOf x && negOf y) 0 := by
  unfold fadd
  have hI : INF = 2047 * 2 ^ 52 := rfl
  rw [add_fin x y (by omega) (by omega)]
  unfold K
  rw [hx, hy, V_zero]
  have : ∀ s : Bool, (if s = true then -((0 : Nat) : Int) else ((0 : Nat) : Int)) = 0 := by intro s; cases s <;> rfl
  rw [this, this]
  rfl

theorem add_apart (x y : Nat) (hx : rungOf x < INF) (hy : rungOf y < INF) (hs : negOf x ≠ negOf y) (k : Nat) (h1 : k ≤ expOf (rungOf x)) (h2 : k ≤ expOf (rungOf y)) (X Y : Nat)
    (hX : X = magOf (rungOf x) * 2 ^ (expOf (rungOf x) - k)) (hY : Y = magOf (rungOf y) * 2 ^ (expOf (rungOf y) - k)) :
    fadd x y = if X = Y then 0 else if Y < X then double.word (negOf x) (rn ((X - Y) * 2 ^ k) 1) else double.word (negOf y) (rn ((Y - X) * 2 ^ k) 1) := by
  unfold fadd
  have hp := Nat.two_pow_pos k
  have eX : V (rungOf x) = X * 2 ^ k := by rw [hX]; exact V_at _ k h1
  have eY : V (rungOf y) = Y * 2 ^ k := by rw [hY]; exact V_at _ k h2
  rw [add_fin x y hx hy]
  unfold K
  rw [eX, eY]
  have hny : negOf y = !negOf x := by cases hh : negOf x <;> cases hh' : negOf y <;> simp_all
  rw [hny]
  generalize 2 ^ k = p at *
  rcases Nat.lt_trichotomy X Y with h | h | h
  · have hl : X * p < Y * p := Nat.mul_lt_mul_of_pos_right h hp
    rw [if_neg (show ¬ X = Y by omega), if_neg (show ¬ Y < X by omega), Nat.sub_mul]
    cases negOf x
    · simp only [Bool.not_false, if_true, Bool.false_eq_true, if_false]
      rw [if_neg (by omega), show decide (((X * p : Nat) : Int) + -((Y * p : Nat) : Int) < 0) = true by rw [decide_eq_true_iff]; omega]
      rw [show (((X * p : Nat) : Int) + -((Y * p : Nat) : Int)).natAbs = Y * p - X * p by omega]
      rfl
    · simp only [Bool.not_true, if_true, Bool.false_eq_true, if_false]
      rw [if_neg (by omega), show decide (-((X * p : Nat) : Int) + ((Y * p : Nat) : Int) < 0) = false by rw [decide_eq_false_iff_not]; omega]
      rw [show (-((X * p : Nat) : Int) + ((Y * p : Nat) : Int)).natAbs = Y * p - X * p by omega]
      rfl
  · rw [if_pos h, h]
    cases negOf x
    · simp only [Bool.not_false, if_true, Bool.false_eq_true, if_false]
      rw [if_pos (by omega), show (((Y * p : Nat) : Int) + -((Y * p : Nat) : Int)).natAbs = 0 by omega]
      rfl
    · simp only [Bool.not_true, if_true, Bool.false_eq_true, if_false]
      rw [if_pos (by omega), show (-((Y * p : Nat) : Int) + ((Y * p : Nat) : Int)).natAbs = 0 by omega]
      rfl
  · have hl : Y * p < X * p := Nat.mul_lt_mul_of_pos_right h hp
    rw [if_neg (show ¬ X = Y by omega), if_pos h, Nat.sub_mul]
    cases negOf x
    · simp only [Bool.not_false, if_true, Bool.false_eq_true, if_false]
      rw [if_neg (by omega), show decide (((X * p : Nat) : Int) + -((Y * p : Nat) : Int) < 0) = false by rw [decide_eq_false_iff_not]; omega]
      rw [show (((X * p : Nat) : Int) + -((Y * p : Nat) : Int)).natAbs = X * p - Y * p by omega]
      rfl
    · simp only [Bool.not_true, if_true, Bool.false_eq_true, if_false]
      rw [if_neg (by omega), show decide (-((X * p : Nat) : Int) + ((Y * p : Nat) : Int) < 0) = true by rw [decide_eq_true_iff]; omega]
      rw [show (-((X * p : Nat) : Int) + ((Y * p : Nat) : Int)).natAbs = X * p - Y * p by omega]
      rfl

/-- The product. -/
theorem mul_ref (x y : Nat) (hx : rungOf x < INF) (hy : rungOf y < INF) (e f : Int) (he : e = (expOf (rungOf x) : Int) - 1074) (hf : f = (expOf (rungOf y) : Int) - 1074) :
    fmul x y = double.word (negOf x ^^ negOf y) (if magOf (rungOf x) * magOf (rungOf y) = 0 then 0 else rungR (magOf (rungOf x) * magOf (rungOf y)) false (e + f)) := by
  unfold fmul
  rw [mul_fin x y hx hy, rungQ_false _ (e + f) (expOf (rungOf x) + expOf (rungOf y)) unit (by have : unit = 1074 := rfl; omega)]
  unfold V
  rw [pow_add', ← Nat.mul_assoc, ← Nat.mul_assoc, Nat.mul_right_comm (magOf (rungOf x)) (magOf (rungOf y))]
  rfl

/-- The quotient. -/
theorem div_ref (x y : Nat) (hx : rungOf x < INF) (hy : rungOf y < INF) (hx0 : rungOf x ≠ 0) (hy0 : rungOf y ≠ 0) (e f : Int) (he : e = (expOf (rungOf x) : Int) - 1074) (hf : f = (expOf (rungOf y) : Int) - 1074)
    (m n : Nat) (hm : m = magOf (rungOf x)) (hn : n = magOf (rungOf y)) :
    m * 2 ^ 128 / n ≠ 0 ∧ fdiv x y = double.word (negOf x ^^ negOf y) (rungR (m * 2 ^ 128 / n) (m * 2 ^ 128 % n != 0) (e - f - 128)) := by
  have hn0 : 0 < n := by
    rw [hn]; have := mag_zero (rungOf y); omega
  have hm0 : 0 < m := by
    rw [hm]; have := mag_zero (rungOf x); omega
  have hnb : n < 2 ^ 53 := by rw [hn]; exact (mag_exp _ hy).1
  have hq : 2 ^ 53 ≤ m * 2 ^ 128 / n := by
    rw [Nat.le_div_iff_mul_le hn0]
    have : 2 ^ 53 * n ≤ 2 ^ 53 * 2 ^ 53 := Nat.mul_le_mul_left _ (by omega)
    have h2 : 1 * 2 ^ 128 ≤ m * 2 ^ 128 := Nat.mul_le_mul_right _ hm0
    exact Nat.le_trans this (Nat.le_trans (by decide) h2)
  refine ⟨by omega, ?_⟩
  unfold fdiv
  rw [div_fin x y hx hy hy0, rungR_rn _ _ _ (by omega) (fun _ => hq), rn_sticky (m * 2 ^ 128) n _ _ hn0 hq]
  have hu : unit = 1074 := rfl
  unfold V
  rw [← hm, ← hn, Nat.mul_assoc m, Nat.mul_assoc m, ← pow_add', ← pow_add']
  rw [rn_shift m n (expOf (rungOf x) + unit) (expOf (rungOf y)) _ _ (show expOf (rungOf x) + unit + (-(e - f - 128 + 1074)).toNat = 128 + (e - f - 128 + 1074).toNat + expOf (rungOf y) by omega)]
  rfl

/-- A whole number. -/
theorem ofInt_ref (n : Int) : ofInt n = double.word (decide (n < 0)) (if n.natAbs = 0 then 0 else rungR n.natAbs false 0) := by
  rw [ofInt_eq, rungQ_false n.natAbs 0 unit 0 (by have : unit = 1074 := rfl; omega), Nat.pow_zero]

end Go.Proofs.YtadlppllbebkdaaGreatDoor

/- The nearest float is the one that a number reads back as. -/
namespace Go.Proofs.YtadlppllbebkdaaGreatDoor

theorem rhe_at {n g m : Nat} (hg : 0 < g) (h : if m % 2 = 0 then 2 * m * g ≤ 2 * n + g ∧ 2 * n ≤ 2 * m * g + g else 2 * m * g < 2 * n + g ∧ 2 * n < 2 * m * g + g) : rhe n g = m := by
  have hd := Nat.div_add_mod n g
  have hl := Nat.mod_lt n hg
  obtain ⟨q, hq⟩ : ∃ q, n / g = q := ⟨_, rfl⟩
  obtain ⟨r, hr⟩ : ∃ r, n % g = r := ⟨_, rfl⟩
  rw [hq, hr] at hd
  rw [hr] at hl
  unfold rhe
  rw [hq, hr]
  have e1 : 2 * m * g ≤ 2 * n + g ∧ 2 * n ≤ 2 * m * g + g := by
    split at h
    · exact h
    · exact ⟨Nat.le_of_lt h.1, Nat.le_of_lt h.2⟩
  -- m is q or q + 1
  have hm1 : m ≤ q + 1 := by
    rcases Nat.lt_or_ge (q + 1) m with hc | hc
    · exfalso
      have := Nat.mul_le_mul_right g (show 2 * (q + 2) ≤ 2 * m by omega)
      have e : 2 * (q + 2) * g = 2 * (g * q) + 4 * g := by grind
      omega
    · exact hc
  have hm2 : q ≤ m := by
    rcases Nat.lt_or_ge m q with hc | hc
    · exfalso
      have := Nat.mul_le_mul_right g (show 2 * m + 2 ≤ 2 * q by omega)
      have e : 2 * q * g = 2 * (g * q) := by grind
      have e' : (2 * m + 2) * g = 2 * m * g + 2 * g := by grind
      omega
    · exact hc
  rcases (show m = q ∨ m = q + 1 by omega) with hc | hc
  · subst hc
    have e : 2 * m * g = 2 * (g * m) := by grind
    have h1 : decide (g < 2 * r) = false := by simp; omega
    have h2 : (g == 2 * r && m % 2 == 1) = false := by
      by_cases hh : g = 2 * r
      · have : m % 2 ≠ 1 := by
          intro ho
          rw [if_neg (by omega)] at h
          omega
        simp [this]
      · simp [hh]
    rw [h1, h2]
    rfl
  · subst hc
    have e : 2 * (q + 1) * g = 2 * (g * q) + 2 * g := by grind
    have h3 : (decide (g < 2 * r) || (g == 2 * r && q % 2 == 1)) = true := by
      by_cases hh : g < 2 * r
      · simp [hh]
      · have hge : g = 2 * r := by omega
        have : q % 2 = 1 := by
          rcases Nat.mod_two_eq_zero_or_one q with ho | ho
          · rw [if_neg (by omega)] at h
            omega
          · exact ho
        simp [hge, this]
    rw [h3]
    rfl

theorem rn_reads {mant : Nat} {k : Int} (h : Flo mant k) {A B : Nat} (hB : 0 < B) (kk : Nat) (hkk : (kk : Int) = k + 1074)
    (hI : if mant % 2 = 0 then cl mant (skewOf mant k) * 2 ^ kk * B ≤ 4 * A ∧ 4 * A ≤ (4 * mant + 2) * 2 ^ kk * B else cl mant (skewOf mant k) * 2 ^ kk * B < 4 * A ∧ 4 * A < (4 * mant + 2) * 2 ^ kk * B) :
    rn A B = kk * 2 ^ 52 + mant := by
  have h1 := h.one
  have h2 := h.top
  have hkb : kk ≤ 2045 := by have := h.hi; omega
  have hk2 := two_pos kk
  have hle : cl mant (skewOf mant k) * 2 ^ kk * B ≤ 4 * A ∧ 4 * A ≤ (4 * mant + 2) * 2 ^ kk * B := by
    split at hI
    · exact hI
    · exact ⟨Nat.le_of_lt hI.1, Nat.le_of_lt hI.2⟩
  have hcl4 : 4 * mant - 2 ≤ cl mant (skewOf mant k) := by
    unfold cl
    cases skewOf mant k
    · simp only [cond_false]; omega
    · simp only [cond_true]; omega
  have hA0 : A ≠ 0 := by
    intro h0
    subst h0
    have : 0 < cl mant (skewOf mant k) * 2 ^ kk * B := Nat.mul_pos (Nat.mul_pos (cl_pos _ h1) hk2) hB
    omega
  have e52 : (2 : Nat) ^ 52 = 4503599627370496 := by decide
  -- the rounding at the float's own scale
  have atk : rhe A (B * 2 ^ kk) = mant := by
    refine rhe_at (Nat.mul_pos hB hk2) ?_
    have hlo := Nat.mul_le_mul_right (2 ^ kk * B) hcl4
    have e1 : cl mant (skewOf mant k) * 2 ^ kk * B = cl mant (skewOf mant k) * (2 ^ kk * B) := Nat.mul_assoc _ _ _
    have e2 : (4 * mant + 2) * 2 ^ kk * B = (4 * mant + 2) * (2 ^ kk * B) := Nat.mul_assoc _ _ _
    rw [e1, e2] at hI
    rw [Nat.mul_comm B]
    generalize 2 ^ kk * B = G at *
    have e3 : (4 * mant - 2) * G + 2 * G = 4 * (mant * G) := by
      rw [← Nat.add_mul, show 4 * mant - 2 + 2 = 4 * mant by omega, Nat.mul_assoc]
    have e4 : (4 * mant + 2) * G = 4 * (mant * G) + 2 * G := by grind
    have e5 : 2 * mant * G = 2 * (mant * G) := Nat.mul_assoc _ _ _
    rw [e5]
    by_cases hm : mant % 2 = 0
    · rw [if_pos hm] at hI ⊢
      omega
    · rw [if_neg hm] at hI ⊢
      omega
  have hINF : kk * 4503599627370496 + mant ≤ 2047 * 4503599627370496 := by omega
  unfold rn
  rw [if_neg hA0, e52]
  obtain ⟨t, ht⟩ : ∃ t, (A / B).log2 - 52 = t := ⟨_, rfl⟩
  rw [ht]
  -- which scale the nearest one takes
  have hup : A / B < 2 ^ (53 + kk) := by
    rw [Nat.div_lt_iff_lt_mul hB]
    have : (4 * mant + 2) * 2 ^ kk * B ≤ 36028797018963966 * 2 ^ kk * B := Nat.mul_le_mul_right _ (Nat.mul_le_mul_right _ (by omega))
    have e : 2 ^ (53 + kk) * B = 9007199254740992 * (2 ^ kk * B) := by rw [Nat.pow_add, Nat.mul_assoc]
    have e' : 36028797018963966 * 2 ^ kk * B = 36028797018963966 * (2 ^ kk * B) := Nat.mul_assoc _ _ _
    have hG : 0 < 2 ^ kk * B := Nat.mul_pos hk2 hB
    rw [e]
    rw [e'] at this
    generalize 2 ^ kk * B = G at *
    omega
  have htk : t ≤ kk := by
    rw [← ht]
    rcases Nat.eq_zero_or_pos (A / B) with h0 | h0
    · rw [h0]; simp
    · have := (Nat.log2_lt (show A / B ≠ 0 by omega)).2 hup
      omega
  by_cases htt : t = kk
  · rw [htt, atk]
    exact Nat.min_eq_left hINF
  · -- just below a power of two
    have hkk1 : 1 ≤ kk := by omega
    have hm52 : 4503599627370496 ≤ mant := by rcases h.norm with hn | hn <;> omega
    have hlt : A / B < 2 ^ (52 + kk) := by
      rcases Nat.lt_or_ge (A / B) (2 ^ (52 + kk)) with hc | hc
      · exact hc
      · exfalso
        have : 52 + kk ≤ (A / B).log2 := (Nat.le_log2 (by have := two_pos (52 + kk); omega)).2 hc
        omega
    have hA1 : A < 4503599627370496 * (2 ^ kk * B) := by
      rw [Nat.div_lt_iff_lt_mul hB, Nat.pow_add, Nat.mul_assoc, e52] at hlt
      exact hlt
    have hsk : mant = 4503599627370496 := by
      rcases Nat.lt_or_ge 4503599627370496 mant with hc | hc
      · exfalso
        have := Nat.mul_le_mul_right (2 ^ kk * B) (show 18014398509481986 ≤ cl mant (skewOf mant k) by omega)
        have e1 : cl mant (skewOf mant k) * 2 ^ kk * B = cl mant (skewOf mant k) * (2 ^ kk * B) := Nat.mul_assoc _ _ _
        have h3 := hle.1
        rw [e1] at h3
        generalize 2 ^ kk * B = G at *
        omega
      · omega
    have hskw : skewOf mant k = true := by unfold skewOf; simp [hsk]; omega
    have hlo : 18014398509481983 * (2 ^ kk * B) ≤ 4 * A := by
      have h3 := hle.1
      rw [hskw, hsk, Nat.mul_assoc] at h3
      exact h3
    have e2k : 2 ^ kk = 2 * 2 ^ (kk - 1) := by
      rw [← Nat.pow_succ']; congr 1; omega
    have ht1 : t = kk - 1 := by
      have hge : 2 ^ (51 + kk) ≤ A / B := by
        rw [Nat.le_div_iff_mul_le hB, Nat.pow_add, Nat.mul_assoc]
        have : (2 : Nat) ^ 51 = 2251799813685248 := by decide
        rw [this]
        generalize 2 ^ kk * B = G at *
        omega
      have : 51 + kk ≤ (A / B).log2 := (Nat.le_log2 (by have := two_pos (51 + kk); omega)).2 hge
      omega
    rw [ht1]
    have hr : rhe A (B * 2 ^ (kk - 1)) = 9007199254740992 := by
      refine rhe_at (Nat.mul_pos hB (two_pos _)) ?_
      rw [if_pos (by decide), Nat.mul_comm B]
      rw [e2k, Nat.mul_assoc] at hlo hA1
      generalize 2 ^ (kk - 1) * B = G at *
      omega
    rw [hr, hsk]
    rw [hsk] at hINF
    have e : (kk - 1) * 4503599627370496 + 9007199254740992 = kk * 4503599627370496 + 4503599627370496 := by omega
    rw [e]
    exact Nat.min_eq_left hINF
end Go.Proofs.YtadlppllbebkdaaGreatDoor
