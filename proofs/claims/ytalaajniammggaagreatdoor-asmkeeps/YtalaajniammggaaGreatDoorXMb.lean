/- Whole numbers as rows of 32 bits, lowest first. -/
import Derived.Test.YtalaajniammggaaGreatDoorXMa
import Derived.Test.YtalaajniammggaaGreatDoorXUa
namespace Go.Proofs.YtalaajniammggaaGreatDoor
def BB : Nat := 4294967296
def val : List Nat → Nat
 | [] => 0
 | x :: r => x + BB * val r
def Dig (l : List Nat) : Prop := ∀ x ∈ l,x < BB
def Norm (l : List Nat) : Prop := l.length = 0 ∨ l.getD (l.length - 1) 0 ≠ 0
theorem val_append (l m : List Nat) : val (l ++ m) = val l + BB ^ l.length * val m := by
 induction l with
 | nil => simp [val]
 | cons x r ih =>
  simp only [List.cons_append,val,ih,List.length_cons,Nat.pow_succ]
  rw [Nat.mul_add,Nat.add_assoc,Nat.mul_comm (BB ^ r.length) BB,Nat.mul_assoc]
theorem val_snoc (l : List Nat) (x : Nat) : val (l ++ [x]) = val l + BB ^ l.length * x := by
 rw [val_append]; simp [val]
theorem val_lt (l : List Nat) (h : Dig l) : val l < BB ^ l.length := by
 induction l with
 | nil => simp [val]
 | cons x r ih =>
  have h1 := h x (by simp)
  have h2 := ih (fun y hy => h y (by simp [hy]))
  simp only [val,List.length_cons,Nat.pow_succ]
  have : BB * (val r + 1) ≤ BB * BB ^ r.length := Nat.mul_le_mul_left _ h2
  rw [Nat.mul_add,Nat.mul_one] at this
  rw [Nat.mul_comm (BB ^ r.length) BB]
  omega
theorem take_succ' (l : List Nat) (k : Nat) (h : k < l.length) : l.take (k + 1) = l.take k ++ [l.getD k 0] := by
 rw [List.take_succ_eq_append_getElem h]
 simp [List.getD,h]
theorem val_take_succ (l : List Nat) (k : Nat) (h : k < l.length) : val (l.take (k + 1)) = val (l.take k) + BB ^ k * l.getD k 0 := by
 rw [take_succ' l k h,val_snoc]
 have : (l.take k).length = k := by simp; omega
 rw [this]
theorem dig_getD (l : List Nat) (h : Dig l) (k : Nat) : l.getD k 0 < BB := by
 by_cases hk : k < l.length
 ·have : l.getD k 0 = l[k] := by simp [List.getD,hk]
  rw [this]; exact h _ (List.getElem_mem hk)
 ·have : l.getD k 0 = 0 := by simp [List.getD,Nat.le_of_not_lt hk]
  rw [this]; decide
theorem dig_take (l : List Nat) (h : Dig l) (k : Nat) : Dig (l.take k) := fun x hx => h x (List.mem_of_mem_take hx)
theorem dig_snoc (l : List Nat) (x : Nat) (h : Dig l) (hx : x < BB) : Dig (l ++ [x]) := fun y hy => by
 rcases List.mem_append.1 hy with h1 | h1
 ·exact h y h1
 ·simp at h1; subst h1; exact hx
theorem norm_ge (l : List Nat) (hn : Norm l) (h0 : l.length ≠ 0) : BB ^ (l.length - 1) ≤ val l := by
 rcases hn with h | h
 ·exact absurd h h0
 ·have e : l = l.take (l.length - 1) ++ [l.getD (l.length - 1) 0] := by
   have := take_succ' l (l.length - 1) (by omega)
   rw [show l.length - 1 + 1 = l.length by omega,List.take_length] at this
   exact this
  rw [e,val_snoc]
  have hl : (l.take (l.length - 1)).length = l.length - 1 := by simp
  rw [← e,hl]
  have : BB ^ (l.length - 1) * 1 ≤ BB ^ (l.length - 1) * l.getD (l.length - 1) 0 := Nat.mul_le_mul_left _ (by omega)
  omega
theorem norm_len (l : List Nat) (hn : Norm l) (k : Nat) (h : val l < BB ^ k) : l.length ≤ k := by
 rcases Nat.lt_or_ge k l.length with h1 | h1
 ·exfalso
  have h2 := norm_ge l hn (by omega)
  have h3 : BB ^ k ≤ BB ^ (l.length - 1) := Nat.pow_le_pow_right (by decide) (by omega)
  omega
 ·exact h1
theorem val_lt_len (l m : List Nat) (hm : Norm m) (dl : Dig l) (h : l.length < m.length) : val l < val m := by
 have h1 := val_lt l dl
 have h2 := norm_ge m hm (by omega)
 have h3 : BB ^ l.length ≤ BB ^ (m.length - 1) := Nat.pow_le_pow_right (by decide) (by omega)
 omega
theorem val_drop (l : List Nat) (k : Nat) (h : k ≤ l.length) : val l = val (l.take k) + BB ^ k * val (l.drop k) := by
 have e : val l = val (l.take k ++ l.drop k) := by rw [List.take_append_drop]
 rw [e,val_append]
 have hl : (l.take k).length = k := by simp; omega
 rw [hl]
theorem drop_cons (l : List Nat) (k : Nat) (h : k < l.length) : l.drop k = l.getD k 0 :: l.drop (k + 1) := by
 rw [List.drop_eq_getElem_cons h]
 simp [List.getD,h]
theorem val_top (l m : List Nat) (k : Nat) (dl : Dig l) (hl : k < l.length) (hm : k < m.length) (ha : l.drop (k + 1) = m.drop (k + 1)) (hlt : l.getD k 0 < m.getD k 0) : val l < val m := by
 rw [val_drop l k (by omega),val_drop m k (by omega),drop_cons l k hl,drop_cons m k hm,ha]
 simp only [val]
 have h1 := val_lt (l.take k) (dig_take l dl k)
 have e1 : (l.take k).length = k := by simp; omega
 rw [e1] at h1
 have h2 : BB ^ k * (l.getD k 0 + BB * val (m.drop (k + 1)) + 1) ≤ BB ^ k * (m.getD k 0 + BB * val (m.drop (k + 1))) := Nat.mul_le_mul_left _ (by omega)
 rw [Nat.mul_add (BB ^ k) (l.getD k 0 + BB * val (m.drop (k + 1))) 1,Nat.mul_one] at h2
 omega
theorem val_zeros (n : Nat) : val (List.replicate n 0) = 0 := by
 induction n with
 | zero => rfl
 | succ n ih => rw [List.replicate_succ]; simp [val,ih]
theorem BB_two (n : Nat) : BB ^ n = 2 ^ (32 * n) := by
 rw [Nat.pow_mul]; rfl
theorem times_step (V P C x m k : Nat) (h : V + BB ^ k * C = m * P) : V + BB ^ k * ((C + x * m) % BB) + BB ^ (k + 1) * ((C + x * m) / BB) = m * (P + BB ^ k * x) := by
 have e := Nat.div_add_mod (C + x * m) BB
 have e2 : BB ^ (k + 1) * ((C + x * m) / BB) = BB ^ k * (BB * ((C + x * m) / BB)) := by rw [Nat.pow_succ,Nat.mul_assoc]
 have e3 : BB ^ k * ((C + x * m) % BB) + BB ^ k * (BB * ((C + x * m) / BB)) = BB ^ k * (C + x * m) := by rw [← Nat.mul_add,Nat.add_comm,e]
 rw [e2,Nat.add_assoc,e3,Nat.mul_add,← Nat.add_assoc,h,Nat.mul_add]
 have e5 : BB ^ k * (x * m) = m * (BB ^ k * x) := by rw [Nat.mul_comm x m,Nat.mul_left_comm]
 rw [e5]
theorem less_step (V A S d x y k : Nat) (_hd : d ≤ 1) (_hx : x < BB) (_hy : y < BB) (h : V + S = A + BB ^ k * d) :
  V + BB ^ k * ((x + BB - y - d) % BB) + (S + BB ^ k * y) = A + BB ^ k * x + BB ^ (k + 1) * (if x < y + d then 1 else 0) := by
 have hB : BB = 4294967296 := rfl
 have e2 : BB ^ (k + 1) * (if x < y + d then 1 else 0) = BB ^ k * (BB * (if x < y + d then 1 else 0)) := by rw [Nat.pow_succ,Nat.mul_assoc]
 rw [e2]
 have e3 : (x + BB - y - d) % BB + y + d = x + BB * (if x < y + d then 1 else 0) := by
  split
  ·rw [Nat.mod_eq_of_lt (by omega)]; omega
  ·have : x + BB - y - d = (x - y - d) + BB := by omega
   rw [this,Nat.add_mod_right,Nat.mod_eq_of_lt (by omega)]; omega
 have e4 := congrArg (BB ^ k * ·) e3
 simp only [Nat.mul_add] at e4
 omega
end Go.Proofs.YtalaajniammggaaGreatDoor

/- Whole numbers, bit by bit. -/
namespace Go.Proofs.YtalaajniammggaaGreatDoor
def words (k : Nat) : Nat := (k + 31) / 32
end Go.Proofs.YtalaajniammggaaGreatDoor

/- Rounding as the document's answer does it. -/
namespace Go.Proofs.YtalaajniammggaaGreatDoor
end Go.Proofs.YtalaajniammggaaGreatDoor

/- What the document's answer reckons, and the closed forms. -/
namespace Go.Proofs.YtalaajniammggaaGreatDoor
open Ieee
end Go.Proofs.YtalaajniammggaaGreatDoor

/- The nearest float is the one that a number reads back as. -/
namespace Go.Proofs.YtalaajniammggaaGreatDoor
theorem rhe_at {n g m : Nat} (hg : 0 < g) (h : if m % 2 = 0 then 2 * m * g ≤ 2 * n + g ∧ 2 * n ≤ 2 * m * g + g else 2 * m * g < 2 * n + g ∧ 2 * n < 2 * m * g + g) : rhe n g = m := by
  have hd := Nat.div_add_mod n g
  have hl := Nat.mod_lt n hg
  obtain ⟨q,hq⟩ : ∃ q,n / g = q := ⟨_,rfl⟩
  obtain ⟨r,hr⟩ : ∃ r,n % g = r := ⟨_,rfl⟩
  rw [hq,hr] at hd
  rw [hr] at hl
  unfold rhe
  rw [hq,hr]
  have e1 : 2 * m * g ≤ 2 * n + g ∧ 2 * n ≤ 2 * m * g + g := by
    split at h
    · exact h
    · exact ⟨Nat.le_of_lt h.1,Nat.le_of_lt h.2⟩
  -- m is q or q + 1
  have hm1 : m ≤ q + 1 := by
    rcases Nat.lt_or_ge (q + 1) m with hc | hc
    · exfalso
      have := Nat.mul_le_mul_right g (show 2 * (q + 2) ≤ 2 * m by omega)
      have e : 2 * (q + 2) * g = 2 * (g * q) + 4 * g := by grind
      omega
    · exact hc
  have hm2 : q ≤ m := by
    rcases Nat.lt_or_ge m q with hc | hc
    · exfalso
      have := Nat.mul_le_mul_right g (show 2 * m + 2 ≤ 2 * q by omega)
      have e : 2 * q * g = 2 * (g * q) := by grind
      have e' : (2 * m + 2) * g = 2 * m * g + 2 * g := by grind
      omega
    · exact hc
  rcases (show m = q ∨ m = q + 1 by omega) with hc | hc
  · subst hc
    have e : 2 * m * g = 2 * (g * m) := by grind
    have h1 : decide (g < 2 * r) = false := by simp; omega
    have h2 : (g == 2 * r && m % 2 == 1) = false := by
      by_cases hh : g = 2 * r
      · have : m % 2 ≠ 1 := by
          intro ho
          rw [if_neg (by omega)] at h
          omega
        simp [this]
      · simp [hh]
    rw [h1,h2]
    rfl
  · subst hc
    have e : 2 * (q + 1) * g = 2 * (g * q) + 2 * g := by grind
    have h3 : (decide (g < 2 * r) || (g == 2 * r && q % 2 == 1)) = true := by
      by_cases hh : g < 2 * r
      · simp [hh]
      · have hge : g = 2 * r := by omega
        have : q % 2 = 1 := by
          rcases Nat.mod_two_eq_zero_or_one q with ho | ho
          · rw [if_neg (by omega)] at h
            omega
          · exact ho
        simp [hge,this]
    rw [h3]
    rfl
theorem rn_reads {mant : Nat} {k : Int} (h : Flo mant k) {A B : Nat} (hB : 0 < B) (kk : Nat) (hkk : (kk : Int) = k + 1074)
    (hI : if mant % 2 = 0 then cl mant (skewOf mant k) * 2 ^ kk * B ≤ 4 * A ∧ 4 * A ≤ (4 * mant + 2) * 2 ^ kk * B else cl mant (skewOf mant k) * 2 ^ kk * B < 4 * A ∧ 4 * A < (4 * mant + 2) * 2 ^ kk * B) :
    rn A B = kk * 2 ^ 52 + mant := by
  have h1 := h.one
  have h2 := h.top
  have hkb : kk ≤ 2045 := by have := h.hi; omega
  have hk2 := two_pos kk
  have hle : cl mant (skewOf mant k) * 2 ^ kk * B ≤ 4 * A ∧ 4 * A ≤ (4 * mant + 2) * 2 ^ kk * B := by
    split at hI
    · exact hI
    · exact ⟨Nat.le_of_lt hI.1,Nat.le_of_lt hI.2⟩
  have hcl4 : 4 * mant - 2 ≤ cl mant (skewOf mant k) := by
    unfold cl
    cases skewOf mant k
    · simp only [cond_false]; omega
    · simp only [cond_true]; omega
  have hA0 : A ≠ 0 := by
    intro h0
    subst h0
    have : 0 < cl mant (skewOf mant k) * 2 ^ kk * B := Nat.mul_pos (Nat.mul_pos (cl_pos _ h1) hk2) hB
    omega
  have e52 : (2 : Nat) ^ 52 = 4503599627370496 := by decide
  -- the rounding at the float's own scale
  have atk : rhe A (B * 2 ^ kk) = mant := by
    refine rhe_at (Nat.mul_pos hB hk2) ?_
    have hlo := Nat.mul_le_mul_right (2 ^ kk * B) hcl4
    have e1 : cl mant (skewOf mant k) * 2 ^ kk * B = cl mant (skewOf mant k) * (2 ^ kk * B) := Nat.mul_assoc _ _ _
    have e2 : (4 * mant + 2) * 2 ^ kk * B = (4 * mant + 2) * (2 ^ kk * B) := Nat.mul_assoc _ _ _
    rw [e1,e2] at hI
    rw [Nat.mul_comm B]
    generalize 2 ^ kk * B = G at *
    have e3 : (4 * mant - 2) * G + 2 * G = 4 * (mant * G) := by
      rw [← Nat.add_mul,show 4 * mant - 2 + 2 = 4 * mant by omega,Nat.mul_assoc]
    have e4 : (4 * mant + 2) * G = 4 * (mant * G) + 2 * G := by grind
    have e5 : 2 * mant * G = 2 * (mant * G) := Nat.mul_assoc _ _ _
    rw [e5]
    by_cases hm : mant % 2 = 0
    · rw [if_pos hm] at hI ⊢
      omega
    · rw [if_neg hm] at hI ⊢
      omega
  have hINF : kk * 4503599627370496 + mant ≤ 2047 * 4503599627370496 := by omega
  unfold rn
  rw [if_neg hA0,e52]
  obtain ⟨t,ht⟩ : ∃ t,(A / B).log2 - 52 = t := ⟨_,rfl⟩
  rw [ht]
  -- which scale the nearest one takes
  have hup : A / B < 2 ^ (53 + kk) := by
    rw [Nat.div_lt_iff_lt_mul hB]
    have : (4 * mant + 2) * 2 ^ kk * B ≤ 36028797018963966 * 2 ^ kk * B := Nat.mul_le_mul_right _ (Nat.mul_le_mul_right _ (by omega))
    have e : 2 ^ (53 + kk) * B = 9007199254740992 * (2 ^ kk * B) := by rw [Nat.pow_add,Nat.mul_assoc]
    have e' : 36028797018963966 * 2 ^ kk * B = 36028797018963966 * (2 ^ kk * B) := Nat.mul_assoc _ _ _
    have hG : 0 < 2 ^ kk * B := Nat.mul_pos hk2 hB
    rw [e]
    rw [e'] at this
    generalize 2 ^ kk * B = G at *
    omega
  have htk : t ≤ kk := by
    rw [← ht]
    rcases Nat.eq_zero_or_pos (A / B) with h0 | h0
    · rw [h0]; simp
    · have := (Nat.log2_lt (show A / B ≠ 0 by omega)).2 hup
      omega
  by_cases htt : t = kk
  · rw [htt,atk]
    exact Nat.min_eq_left hINF
  · -- just below a power of two
    have hkk1 : 1 ≤ kk := by omega
    have hm52 : 4503599627370496 ≤ mant := by rcases h.norm with hn | hn <;> omega
    have hlt : A / B < 2 ^ (52 + kk) := by
      rcases Nat.lt_or_ge (A / B) (2 ^ (52 + kk)) with hc | hc
      · exact hc
      · exfalso
        have : 52 + kk ≤ (A / B).log2 := (Nat.le_log2 (by have := two_pos (52 + kk); omega)).2 hc
        omega
    have hA1 : A < 4503599627370496 * (2 ^ kk * B) := by
      rw [Nat.div_lt_iff_lt_mul hB,Nat.pow_add,Nat.mul_assoc,e52] at hlt
      exact hlt
    have hsk : mant = 4503599627370496 := by
      rcases Nat.lt_or_ge 4503599627370496 mant with hc | hc
      · exfalso
        have := Nat.mul_le_mul_right (2 ^ kk * B) (show 18014398509481986 ≤ cl mant (skewOf mant k) by omega)
        have e1 : cl mant (skewOf mant k) * 2 ^ kk * B = cl mant (skewOf mant k) * (2 ^ kk * B) := Nat.mul_assoc _ _ _
        have h3 := hle.1
        rw [e1] at h3
        generalize 2 ^ kk * B = G at *
        omega
      · omega
    have hskw : skewOf mant k = true := by unfold skewOf; simp [hsk]; omega
    have hlo : 18014398509481983 * (2 ^ kk * B) ≤ 4 * A := by
      have h3 := hle.1
      rw [hskw,hsk,Nat.mul_assoc] at h3
      exact h3
    have e2k : 2 ^ kk = 2 * 2 ^ (kk - 1) := by
      rw [← Nat.pow_succ']; congr 1; omega
    have ht1 : t = kk - 1 := by
      have hge : 2 ^ (51 + kk) ≤ A / B := by
        rw [Nat.le_div_iff_mul_le hB,Nat.pow_add,Nat.mul_assoc]
        have : (2 : Nat) ^ 51 = 2251799813685248 := by decide
        rw [this]
        generalize 2 ^ kk * B = G at *
        omega
      have : 51 + kk ≤ (A / B).log2 := (Nat.le_log2 (by have := two_pos (51 + kk); omega)).2 hge
      omega
    rw [ht1]
    have hr : rhe A (B * 2 ^ (kk - 1)) = 9007199254740992 := by
      refine rhe_at (Nat.mul_pos hB (two_pos _)) ?_
      rw [if_pos (by decide),Nat.mul_comm B]
      rw [e2k,Nat.mul_assoc] at hlo hA1
      generalize 2 ^ (kk - 1) * B = G at *
      omega
    rw [hr,hsk]
    rw [hsk] at hINF
    have e : (kk - 1) * 4503599627370496 + 9007199254740992 = kk * 4503599627370496 + 4503599627370496 := by omega
    rw [e]
    exact Nat.min_eq_left hINF
end Go.Proofs.YtalaajniammggaaGreatDoor
