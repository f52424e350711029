/- Whole numbers, bit by bit. -/
import Derived.Test.YtadlppllbebkdaaGreatDoorM7
namespace Go.Proofs.YtadlppllbebkdaaGreatDoor

/-- How many digits k bits take. -/
def words (k : Nat) : Nat := (k + 31) / 32

theorem words_mul (k : Nat) (h : k % 32 = 0) : words k = k / 32 ∧ words (k + 1) = k / 32 + 1 := by unfold words; omega
theorem words_not (k : Nat) (h : k % 32 ≠ 0) : words k = k / 32 + 1 ∧ words (k + 1) = k / 32 + 1 := by unfold words; omega

/-- L are the first k bits of V. -/
def Bits (L : List Nat) (k V : Nat) : Prop := L.length = words k ∧ Dig L ∧ val L = V % 2 ^ k

theorem bits_zero (V : Nat) : Bits [] 0 V := ⟨rfl, fun y hy => by simp at hy, by simp [val, Nat.mod_one]⟩

theorem mod_succ (V k : Nat) : V % 2 ^ (k + 1) = V % 2 ^ k + 2 ^ k * (V / 2 ^ k % 2) := by
  rw [Nat.pow_succ, Nat.mod_mul]

theorem bits_push (L : List Nat) (k V z : Nat) (h : Bits L k V) (hk : k % 32 = 0) (hz : z = V / 2 ^ k % 2) : Bits (L ++ [z]) (k + 1) V := by
  obtain ⟨h1, h2, h3⟩ := h
  obtain ⟨w1, w2⟩ := words_mul k hk
  have hz2 : z < 2 := by rw [hz]; exact Nat.mod_lt _ (by decide)
  refine ⟨by simp [h1, w1, w2], dig_snoc L z h2 (Nat.lt_trans hz2 (by decide)), ?_⟩
  rw [val_snoc, h3, mod_succ, h1, w1, ← hz, BB_two]
  have : 32 * (k / 32) = k := by omega
  rw [this]

theorem val_set (L : List Nat) (t x : Nat) (ht : t < L.length) : val (L.set t (L.getD t 0 + x)) = val L + BB ^ t * x := by
  induction L generalizing t with
  | nil => simp at ht
  | cons a r ih =>
    cases t with
    | zero => simp [val]; omega
    | succ t =>
      have := ih t (by simpa using ht)
      simp only [List.set_cons_succ, val, List.getD_cons_succ]
      rw [this, Nat.mul_add, Nat.pow_succ, ← Nat.add_assoc, ← Nat.mul_assoc, Nat.mul_comm (BB ^ t) BB]

theorem top_small (L : List Nat) (k V : Nat) (h : Bits L k V) (hk : k % 32 ≠ 0) : L.getD (k / 32) 0 < 2 ^ (k % 32) := by
  obtain ⟨h1, h2, h3⟩ := h
  obtain ⟨w1, -⟩ := words_not k hk
  rw [w1] at h1
  have e := val_take_succ L (k / 32) (by omega)
  rw [← h1, List.take_length] at e
  have hlt : val L < 2 ^ k := by rw [h3]; exact Nat.mod_lt _ (Nat.two_pow_pos k)
  have hk2 : k = 32 * (k / 32) + k % 32 := by omega
  have hp : 2 ^ k = BB ^ (k / 32) * 2 ^ (k % 32) := by
    rw [BB_two, ← pow_add', ← hk2]
  rw [hp] at hlt
  rcases Nat.lt_or_ge (L.getD (k / 32) 0) (2 ^ (k % 32)) with h | h
  · exact h
  · exfalso
    have := Nat.mul_le_mul_left (BB ^ (k / 32)) h
    omega

theorem bits_set (L : List Nat) (k V z : Nat) (h : Bits L k V) (hk : k % 32 ≠ 0) (hz : z = V / 2 ^ k % 2) : Bits (L.set (k / 32) (L.getD (k / 32) 0 + z * 2 ^ (k % 32))) (k + 1) V := by
  have hs := top_small L k V h hk
  obtain ⟨h1, h2, h3⟩ := h
  obtain ⟨w1, w2⟩ := words_not k hk
  have hz2 : z < 2 := by rw [hz]; exact Nat.mod_lt _ (by decide)
  have hp : 2 ^ (k % 32) ≤ 2 ^ 31 := Nat.pow_le_pow_right (by decide) (by omega)
  have hlt : L.getD (k / 32) 0 + z * 2 ^ (k % 32) < BB := by
    have : z * 2 ^ (k % 32) ≤ 1 * 2 ^ (k % 32) := Nat.mul_le_mul_right _ (by omega)
    unfold BB; omega
  refine ⟨by rw [List.length_set, h1, w1, w2], fun y hy => ?_, ?_⟩
  · rcases List.mem_or_eq_of_mem_set hy with h | h
    · exact h2 y h
    · rw [h]; exact hlt
  · rw [val_set L _ _ (by omega), h3, mod_succ, ← hz, BB_two]
    have hk2 : k = 32 * (k / 32) + k % 32 := by omega
    have : 2 ^ (32 * (k / 32)) * (z * 2 ^ (k % 32)) = 2 ^ k * z := by
      rw [Nat.mul_comm z, ← Nat.mul_assoc, ← pow_add', ← hk2]
    rw [this]

theorem or_bit32 (x z r : Nat) (hx : x < 2 ^ r) : x ||| (z * 2 ^ r) = x + z * 2 ^ r := by
  have h := Nat.shiftLeft_add_eq_or_of_lt hx z
  rw [Nat.shiftLeft_eq] at h
  rw [Nat.or_comm, ← h, Nat.add_comm]

/-- A digit's bit is the number's. -/
theorem digit_bit (l : List Nat) (i : Nat) (hd : i / 32 < l.length) (hdig : Dig l) : l.getD (i / 32) 0 / 2 ^ (i % 32) % 2 = val l / 2 ^ i % 2 := by
  have e := val_drop l (i / 32) (by omega)
  have h1 := val_lt (l.take (i / 32)) (dig_take l hdig _)
  have h2 : (l.take (i / 32)).length = i / 32 := by simp; omega
  rw [h2] at h1
  have hi : i = 32 * (i / 32) + i % 32 := by omega
  have hp : 2 ^ i = BB ^ (i / 32) * 2 ^ (i % 32) := by rw [BB_two, ← pow_add', ← hi]
  have e2 : val l / BB ^ (i / 32) = val (l.drop (i / 32)) := by
    rw [e, Nat.add_comm, Nat.mul_add_div (BB_pow _), Nat.div_eq_of_lt h1, Nat.add_zero]
  rw [hp, ← Nat.div_div_eq_div_mul, e2, drop_cons l _ hd]
  simp only [val]
  have hr : i % 32 < 32 := Nat.mod_lt _ (by decide)
  have hB : BB = 2 ^ (31 - i % 32) * 2 * 2 ^ (i % 32) := by
    rw [Nat.mul_assoc, Nat.mul_comm 2, ← Nat.pow_succ, ← pow_add']
    have : 31 - i % 32 + (i % 32).succ = 32 := by omega
    rw [this]; rfl
  have e3 : l.getD (i / 32) 0 + BB * val (l.drop (i / 32 + 1)) = l.getD (i / 32) 0 + 2 ^ (i % 32) * (2 * (2 ^ (31 - i % 32) * val (l.drop (i / 32 + 1)))) := by
    rw [hB]
    congr 1
    rw [Nat.mul_comm (2 ^ (31 - i % 32) * 2), Nat.mul_comm (2 ^ (31 - i % 32)) 2, Nat.mul_assoc, Nat.mul_assoc]
  rw [e3, Nat.add_mul_div_left _ _ (Nat.two_pow_pos _), Nat.add_mul_mod_self_left]

theorem bits_end (L : List Nat) (k V : Nat) (h : Bits L k V) (hV : V < 2 ^ k) : val L = V := by
  rw [h.2.2, Nat.mod_eq_of_lt hV]
end Go.Proofs.YtadlppllbebkdaaGreatDoor
