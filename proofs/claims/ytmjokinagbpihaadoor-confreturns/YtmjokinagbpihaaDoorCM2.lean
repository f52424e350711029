/- Bytes there and back, over whole numbers. -/
import Derived.Test.YtmjokinagbpihaaDoorCM1
namespace Go.Proofs.YtmjokinagbpihaaDoor
open Go.RowKit

theorem pow_step (j : Nat) : 2 ^ (8 * (j + 1)) = 2 ^ (8 * j) * 256 := by rw [Nat.mul_add, Nat.pow_add]

theorem sumB_lt (bs : List Nat) (p : Nat) (hb : ∀ i, bs.getD i 0 < 256) : ∀ m, sumB bs p m < 2 ^ (8 * m)
  | 0 => by simp [sumB]
  | m + 1 => by
    have ih := sumB_lt bs p hb m
    have h1 : bs.getD (p + m) 0 * 2 ^ (8 * m) ≤ 255 * 2 ^ (8 * m) := Nat.mul_le_mul_right _ (by have := hb (p + m); omega)
    rw [sumB, pow_step]
    omega

theorem sumB_byte (bs : List Nat) (p : Nat) (hb : ∀ i, bs.getD i 0 < 256) : ∀ m j, j < m → sumB bs p m / 2 ^ (8 * j) % 256 = bs.getD (p + j) 0
  | 0, j, h => absurd h (Nat.not_lt_zero j)
  | m + 1, j, h => by
    have hl := sumB_lt bs p hb m
    have hbm := hb (p + m)
    rw [sumB]
    by_cases e : j = m
    · subst e
      rw [Nat.add_mul_div_right _ _ (Nat.two_pow_pos _), Nat.div_eq_of_lt hl]
      omega
    · have ih := sumB_byte bs p hb m j (by omega)
      have e2 : 2 ^ (8 * m) = 2 ^ (8 * j) * (256 * 2 ^ (8 * (m - j - 1))) := by
        rw [show (256 : Nat) = 2 ^ 8 by rfl, ← Nat.pow_add, ← Nat.pow_add]
        congr 1
        omega
      rw [e2, show bs.getD (p + m) 0 * (2 ^ (8 * j) * (256 * 2 ^ (8 * (m - j - 1)))) = 256 * (bs.getD (p + m) 0 * 2 ^ (8 * (m - j - 1))) * 2 ^ (8 * j) by
        simp only [Nat.mul_assoc, Nat.mul_comm, Nat.mul_left_comm], Nat.add_mul_div_right _ _ (Nat.two_pow_pos _), Nat.add_mul_mod_self_left]
      exact ih

theorem sumB_of (bs : List Nat) (p u : Nat) : ∀ m, (∀ j, j < m → bs.getD (p + j) 0 = u / 2 ^ (8 * j) % 256) → sumB bs p m = u % 2 ^ (8 * m)
  | 0, _ => by simp [sumB, Nat.mod_one]
  | m + 1, h => by
    rw [sumB, sumB_of bs p u m (fun j hj => h j (by omega)), h m (by omega), pow_step, Nat.mod_mul]
    congr 1
    exact Nat.mul_comm _ _

theorem wrap64_u64 {z : Int} (h1 : -9223372036854775808 ≤ z) (h2 : z ≤ 9223372036854775807) : wrap64 (u64 z : Nat) = z := by
  unfold wrap64 u64; omega
theorem u64_wrap64 {s : Nat} (h : s < 18446744073709551616) : u64 (wrap64 (s : Int)) = s := by
  unfold wrap64 u64; omega

theorem encB_at : ∀ (l : List Ins) (i r : Nat), i < l.length → r < 12 → (encB l).getD (12 * i + r) 0 = (insB (l.getD i default)).getD r 0
  | [], i, _, h, _ => absurd h (Nat.not_lt_zero i)
  | x :: l, 0, r, _, hr => by
    simp only [encB, List.flatMap_cons, Nat.mul_zero, Nat.zero_add, List.getD_eq_getElem?_getD, List.getElem?_cons_zero, Option.getD_some]
    rw [List.getElem?_append_left (by rw [insB_len]; exact hr)]
  | x :: l, i + 1, r, h, hr => by
    have ih := encB_at l i r (by simpa using h) hr
    simp only [encB, List.flatMap_cons, List.getD_eq_getElem?_getD, List.getElem?_cons_succ] at *
    rw [List.getElem?_append_right (by rw [insB_len]; omega), insB_len, show 12 * (i + 1) + r - 12 = 12 * i + r by omega]
    exact ih

theorem insB_imm (x : Ins) (j : Nat) (h : j < 8) : (insB x).getD (4 + j) 0 = byteAt x.imm j := by
  simp only [insB, List.getD_eq_getElem?_getD]
  rw [List.getElem?_append_right (by simp)]
  simp [h]

theorem b8_small {z : Int} (h1 : 0 ≤ z) (h2 : z < 256) : (b8 z : Int) = z := by unfold b8; omega
theorem b8_nat {n : Nat} (h2 : n < 256) : b8 (n : Int) = n := by unfold b8; omega

def Fit (x : Ins) : Prop := -9223372036854775808 ≤ x.imm ∧ x.imm ≤ 9223372036854775807

theorem get_enc (l : List Ins) (i : Nat) (hi : i < l.length) (n k : Int) (hw : (wrong (l.getD i default) n k).1 = 0) (hf : Fit (l.getD i default)) : getI (encB l) (12 * i) = l.getD i default := by
  obtain ⟨o1, o2, ha, hb, hc, _⟩ := wrong_ok hw
  have ra := regE_ok ha
  have rb := regE_ok hb
  have rc := regE_ok hc
  have e0 := encB_at l i 0 hi (by omega)
  have e1 := encB_at l i 1 hi (by omega)
  have e2 := encB_at l i 2 hi (by omega)
  have e3 := encB_at l i 3 hi (by omega)
  have es : sumB (encB l) (12 * i + 4) 8 = u64 (l.getD i default).imm := by
    rw [sumB_of (encB l) (12 * i + 4) (u64 (l.getD i default).imm) 8 (fun j hj => by
      rw [Nat.add_assoc, encB_at l i (4 + j) hi (by omega), insB_imm _ j hj]; rfl)]
    exact Nat.mod_eq_of_lt (u64_lt _)
  unfold getI
  rw [Nat.add_zero] at e0
  rw [e0, e1, e2, e3, es, wrap64_u64 hf.1 hf.2]
  generalize l.getD i default = x at *
  cases x
  simp only [insB, List.cons_append, List.getD_cons_zero, List.getD_cons_succ, Ins.mk.injEq, and_true] at *
  exact ⟨b8_small o1 (by omega), b8_small ra.1 (by omega), b8_small rb.1 (by omega), b8_small rc.1 (by omega)⟩

theorem insB_get (bs : List Nat) (p : Nat) (hb : ∀ i, bs.getD i 0 < 256) (r : Nat) (hr : r < 12) : (insB (getI bs p)).getD r 0 = bs.getD (p + r) 0 := by
  by_cases h4 : r < 4
  · have : r = 0 ∨ r = 1 ∨ r = 2 ∨ r = 3 := by omega
    rcases this with rfl | rfl | rfl | rfl <;> simp only [insB, getI, List.cons_append, List.getD_cons_zero, List.getD_cons_succ, Nat.add_zero] <;> exact b8_nat (hb _)
  · obtain ⟨j, rfl⟩ : ∃ j, r = 4 + j := ⟨r - 4, by omega⟩
    rw [insB_imm _ j (by omega)]
    have hs : sumB bs (p + 4) 8 < 18446744073709551616 := sumB_lt bs (p + 4) hb 8
    simp only [byteAt, getI]
    rw [u64_wrap64 hs, sumB_byte bs (p + 4) hb 8 j (by omega), Nat.add_assoc]

theorem enc_dec (bs : List Nat) (n : Nat) (hb : ∀ i, bs.getD i 0 < 256) (hn : bs.length = 12 * n) : encB (decL bs n) = bs := by
  have hlen : (encB (decL bs n)).length = bs.length := by rw [encB_len, decL_len, hn]
  refine List.ext_getElem? fun q => ?_
  by_cases hq : q < bs.length
  · have h1 := encB_at (decL bs n) (q / 12) (q % 12) (by rw [decL_len]; omega) (by omega)
    rw [Nat.div_add_mod, decL_at bs n (q / 12) (by omega), insB_get bs _ hb _ (by omega), Nat.div_add_mod] at h1
    rw [List.getD_eq_getElem?_getD, List.getD_eq_getElem?_getD] at h1
    rw [List.getElem?_eq_getElem hq] at h1 ⊢
    rw [List.getElem?_eq_getElem (by omega)] at h1 ⊢
    simpa using h1
  · rw [List.getElem?_eq_none (by omega), List.getElem?_eq_none (by omega)]

/-- What the bytes of a program that may be are read as. -/
theorem dec_enc (l : List Ins) (hm : (mayL l 8).1 = 0) (hf : ∀ x ∈ l, Fit x) : decR (encB l) = (0, 0) ∧ decL (encB l) l.length = l := by
  unfold mayL at hm
  rw [if_neg (by omega)] at hm
  split at hm
  · simp at hm
  · next h256 =>
    have hz := firstE_zero _ _ l 0 hm
    have hg : ∀ j, j < l.length → getI (encB l) (12 * j) = l.getD j default := fun j hj => get_enc l j hj _ _ (hz j hj) (hf _ (by
      rw [List.getD_eq_getElem?_getD, List.getElem?_eq_getElem hj]; exact List.getElem_mem hj))
    have hlen := encB_len l
    refine ⟨?_, ?_⟩
    · unfold decR
      rw [if_neg (by omega), if_neg (by omega), hlen, Nat.mul_div_cancel_left _ (by decide)]
      exact decE_none _ _ _ _ (fun j hj => by rw [Nat.zero_add, hg j hj]; exact hz j hj)
    · refine List.ext_getElem? fun q => ?_
      by_cases hq : q < l.length
      · have := decL_at (encB l) l.length q hq
        rw [hg q hq, List.getD_eq_getElem?_getD, List.getD_eq_getElem?_getD] at this
        rw [List.getElem?_eq_getElem hq] at this ⊢
        rw [List.getElem?_eq_getElem (by rw [decL_len]; exact hq)] at this ⊢
        simpa using this
      · rw [List.getElem?_eq_none (l := decL _ _) (by rw [decL_len]; omega), List.getElem?_eq_none (by omega)]

theorem decR_ok {bs : List Nat} (h : (decR bs).1 = 0) : bs.length ≤ 3072 ∧ bs.length = 12 * (bs.length / 12) ∧ ∀ j, j < bs.length / 12 → (wrong (getI bs (12 * j)) (bs.length / 12 : Nat) 8).1 = 0 := by
  unfold decR at h
  split at h
  · simp at h
  · split at h
    · simp at h
    · refine ⟨by omega, by omega, fun j hj => ?_⟩
      have := decE_zero bs _ _ 0 h j hj
      rwa [Nat.zero_add] at this

theorem may_dec (bs : List Nat) (h : (decR bs).1 = 0) : mayL (decL bs (bs.length / 12)) 8 = (0, 0) := by
  obtain ⟨h1, h2, h3⟩ := decR_ok h
  unfold mayL
  rw [if_neg (by omega), decL_len, if_neg (by omega)]
  exact firstE_none _ _ _ _ (fun j hj => by
    rw [decL_len] at hj
    rw [decL_at _ _ _ hj]
    exact h3 j hj)

theorem decE_place (bs : List Nat) (n : Nat) : ∀ (m s : Nat), 0 ≤ (decE bs n s m).2 ∧ ((decE bs n s m).1 ≠ 0 → (decE bs n s m).2 ≤ 12 * (s + m : Nat)) ∧ ((decE bs n s m).1 = 0 → (decE bs n s m).2 = 0)
  | 0, s => by simp [decE]
  | m + 1, s => by
    have hx := wrong_at_lt (getI bs (12 * s)) n 8
    have ih := decE_place bs n m (s + 1)
    unfold decE
    split
    · next h => exact ⟨by simp only; omega, fun _ => by simp only; omega, fun h' => absurd h' h⟩
    · refine ⟨ih.1, fun h => ?_, ih.2.2⟩
      have := ih.2.1 h
      omega

theorem decR_place (bs : List Nat) : 0 ≤ (decR bs).2 ∧ (decR bs).2 ≤ bs.length ∧ ((decR bs).1 = 0 → (decR bs).2 = 0) := by
  unfold decR
  split
  · exact ⟨by simp, by simp only; omega, fun h => by simp at h⟩
  · split
    · exact ⟨by simp, by simp, fun h => by simp at h⟩
    · have h := decE_place bs (bs.length / 12) (bs.length / 12) 0
      refine ⟨h.1, ?_, h.2.2⟩
      by_cases h0 : (decE bs (bs.length / 12) 0 (bs.length / 12)).1 = 0
      · rw [h.2.2 h0]; omega
      · have := h.2.1 h0; omega

theorem firstE_place (n k : Int) : ∀ (l : List Ins) (s : Int), ((firstE n k l s).1 = 0 ∧ (firstE n k l s).2 = 0) ∨ (s ≤ (firstE n k l s).2 ∧ (firstE n k l s).2 < s + l.length)
  | [], s => .inl ⟨rfl, rfl⟩
  | x :: r, s => by
    unfold firstE
    split
    · right; simp only [List.length_cons]; omega
    · rcases firstE_place n k r (s + 1) with h | h
      · exact .inl h
      · right; simp only [List.length_cons]; omega

theorem mayL_place (l : List Ins) (k : Int) : 0 ≤ (mayL l k).2 ∧ (mayL l k).2 ≤ l.length ∧ ((mayL l k).1 = 0 → (mayL l k).2 = 0) := by
  unfold mayL
  split
  · exact ⟨by simp, by simp, fun h => by simp at h⟩
  · split
    · exact ⟨by simp, by simp only; omega, fun h => by simp at h⟩
    · rcases firstE_place l.length k l 0 with h | h
      · rw [h.2]; exact ⟨by omega, by omega, fun _ => rfl⟩
      · refine ⟨by omega, by omega, fun h0 => ?_⟩
        have hz := firstE_none l.length k l 0 (firstE_zero _ _ l 0 h0)
        rw [hz]

/-- What may stand may in a longer program, and with more locks. -/
theorem wrong_more {x : Ins} {n k n' k' : Int} (h : (wrong x n k).1 = 0) (hn : n ≤ n') (hk : k ≤ k') : (wrong x n' k').1 = 0 := by
  obtain ⟨h1, h2, h3, h4, h5, h6⟩ := wrong_ok h
  have h7 : immE x.op x.imm n' k' = 0 := by
    unfold immE at *
    split
    · next hi =>
      rw [if_pos hi] at h6
      split
      · next ho =>
        rw [if_pos ho] at h6
        split at h6
        · rw [if_pos (by omega)]
        · simp at h6
      · next ho =>
        rw [if_neg ho] at h6
        split
        · next hq =>
          rw [if_pos hq] at h6
          split at h6
          · rw [if_pos (by omega)]
          · simp at h6
        · rfl
    · next hi =>
      rw [if_neg hi] at h6
      exact h6
  unfold wrong
  rw [if_neg (by omega), if_neg (by rw [h3]; simp), if_neg (by rw [h4]; simp), if_neg (by rw [h5]; simp), if_neg (by rw [h7]; simp)]
end Go.Proofs.YtmjokinagbpihaaDoor
