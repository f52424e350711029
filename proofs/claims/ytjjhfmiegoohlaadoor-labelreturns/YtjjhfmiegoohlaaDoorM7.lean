/- A label's text and back: no Go in sight. -/
import Derived.Test.YtjjhfmiegoohlaaDoorM6
namespace Go.Proofs.YtjjhfmiegoohlaaDoor

def sep (x : List UInt8) : List UInt8 := if 1 < x.length then x ++ [44] else x
theorem txt_succ (a k : Nat) : txt a (k + 1) = if a.testBit k then sep (txt a k) ++ dec k else txt a k := rfl

theorem txt_congr (a b : Nat) : ∀ k, (∀ i, i < k → a.testBit i = b.testBit i) → txt a k = txt b k
  | 0, _ => rfl
  | k + 1, h => by
    rw [txt_succ, txt_succ, h k (by omega), txt_congr a b k (fun i hi => h i (by omega))]
theorem txt_skip (a j : Nat) : ∀ k, j ≤ k → (∀ i, j ≤ i → i < k → a.testBit i = false) → txt a k = txt a j
  | 0, hj, _ => by rw [show j = 0 by omega]
  | k + 1, hj, h => by
    by_cases e : j = k + 1
    · rw [e]
    · rw [txt_succ, h k (by omega) (by omega), if_neg (by decide)]
      exact txt_skip a j k (by omega) (fun i h1 h2 => h i h1 (by omega))

theorem onlyN_tb (n i : Nat) : (onlyN n).testBit i = decide (n = i) := by unfold onlyN; exact Nat.testBit_two_pow

/-- One secret more, above all that are in A. -/
theorem txt_more (A m n : Nat) (hA : ∀ i, m ≤ i → A.testBit i = false) (hmn : m ≤ n) : txt (A ||| onlyN n) (n + 1) = sep (txt A m) ++ dec n := by
  have hb : (A ||| onlyN n).testBit n = true := by rw [Nat.testBit_or, onlyN_tb]; simp
  rw [txt_succ, hb, if_pos rfl, txt_skip (A ||| onlyN n) m n hmn (fun i h1 h2 => by rw [Nat.testBit_or, hA i h1, onlyN_tb]; simp; omega)]
  rw [txt_congr (A ||| onlyN n) A m (fun i hi => by rw [Nat.testBit_or, onlyN_tb, decide_eq_false (by omega), Bool.or_false])]

theorem take_close (rest : List UInt8) (d : Nat) (c : UInt8) (hd : d < rest.length) (hc : rest.getD d 0 = c) : rest.take (d + 1) = rest.take d ++ [c] := by
  rw [List.take_succ_eq_append_getElem hd]
  rw [List.getD_eq_getElem?_getD, List.getElem?_eq_getElem hd] at hc
  rw [show rest[d] = c from hc]

theorem run_text : ∀ (q k : Nat) (rest : List UInt8) (L y A : Nat), k ≤ 64 → run q k rest = (L, some y) → (∀ i, 64 - k ≤ i → A.testBit i = false) →
    txt (A ||| y) 64 ++ [125] = sep (txt A (64 - k)) ++ rest.take L ∧ y < 18446744073709551616
  | 0, k, rest, L, y, A, _, h, _ => by simp [run] at h
  | q + 1, k, rest, L, y, A, hk, h, hA => by
    have hin : rest.getD (ndig rest) 0 ≠ 0 → ndig rest < rest.length := by
      intro h
      by_cases hlt : ndig rest < rest.length
      · exact hlt
      · exact absurd (by rw [List.getD_eq_getElem?_getD, List.getElem?_eq_none (by omega)]; rfl) h
    cases hf : fnd (rest.take (ndig rest)) k with
    | none => rw [run_none q k rest hf] at h; simp at h
    | some n =>
      obtain ⟨r1, r2, r3⟩ := fnd_range _ k n hk hf
      have hmore := txt_more A (64 - k) n hA r1
      by_cases h125 : rest.getD (ndig rest) 0 = 125
      · rw [run_close q k rest n hf h125] at h
        obtain ⟨rfl, rfl⟩ : ndig rest + 1 = L ∧ onlyN n = y := by simpa using h
        refine ⟨?_, onlyN_lt n r2⟩
        rw [take_close rest _ 125 (hin (by rw [h125]; decide)) h125, ← r3, ← List.append_assoc, ← hmore]
        rw [txt_skip (A ||| onlyN n) (n + 1) 64 (by omega) (fun i h1 h2 => by rw [Nat.testBit_or, hA i (by omega), onlyN_tb]; simp; omega)]
      · by_cases h44 : rest.getD (ndig rest) 0 = 44 ∧ n < 63
        · rw [run_comma q k rest n hf h44.1 h44.2] at h
          cases ho : (run q (63 - n) (rest.drop (ndig rest + 1))).2 with
          | none => rw [ho] at h; simp at h
          | some y2 =>
            rw [ho] at h
            obtain ⟨h1, h2⟩ : ndig rest + 1 + (run q (63 - n) (rest.drop (ndig rest + 1))).1 = L ∧ onlyN n ||| y2 = y := by simpa using h
            have ih := run_text q (63 - n) (rest.drop (ndig rest + 1)) _ y2 (A ||| onlyN n) (by omega) (Prod.ext rfl ho) (fun i hi => by rw [Nat.testBit_or, hA i (by omega), onlyN_tb]; simp; omega)
            rw [show 64 - (63 - n) = n + 1 by omega, hmore] at ih
            have hsep : sep (sep (txt A (64 - k)) ++ dec n) = sep (txt A (64 - k)) ++ dec n ++ [44] := by
              have l1 := txt_len A (64 - k)
              have l2 := dec_len n
              have l3 : (txt A (64 - k)).length ≤ (sep (txt A (64 - k))).length := by unfold sep; split <;> simp
              rw [sep, if_pos (by rw [List.length_append]; omega)]
            rw [hsep] at ih
            refine ⟨?_, ?_⟩
            · rw [← h2, ← h1, ← Nat.or_assoc, ih.1, List.take_add, take_close rest _ 44 (hin (by rw [h44.1]; decide)) h44.1, ← r3]
              simp
            · rw [← h2]
              have := Nat.or_lt_two_pow (n := 64) (x := onlyN n) (y := y2) (by simpa using onlyN_lt n r2) (by simpa using ih.2)
              simpa using this
        · rw [run_other q k rest n hf h125 h44] at h; simp at h

theorem top_text (l : List UInt8) (y : Nat) (h : top l = (l.length, some y)) : printL y = l ∧ y < 18446744073709551616 := by
  cases l with
  | nil => simp [top] at h
  | cons c rest =>
    by_cases hc : c = 123
    · subst hc
      by_cases h125 : rest.getD 0 0 = 125
      · have ht : top (123 :: rest) = (2, some 0) := by simp only [top]; rw [if_pos trivial, if_pos h125]
        rw [ht] at h
        simp only [List.length_cons, Prod.mk.injEq, Option.some.injEq] at h
        obtain ⟨x, rfl⟩ := List.length_eq_one_iff.1 (show rest.length = 1 by omega)
        rw [← h.2]
        simp at h125
        rw [h125]
        exact ⟨by decide +kernel, by decide⟩
      · have ht : top (123 :: rest) = (1 + (run 64 64 rest).1, (run 64 64 rest).2) := by simp only [top]; rw [if_pos trivial, if_neg h125]
        rw [ht] at h
        simp only [List.length_cons, Prod.mk.injEq] at h
        have hr := run_text 64 64 rest (run 64 64 rest).1 y 0 (by decide) (Prod.ext rfl h.2) (fun i _ => Nat.zero_testBit i)
        refine ⟨?_, hr.2⟩
        rw [Nat.zero_or] at hr
        unfold printL
        rw [hr.1, show (run 64 64 rest).1 = rest.length by omega, List.take_length]
        rfl
    · have ht : top (c :: rest) = (0, none) := by simp [top, hc]
      rw [ht] at h
      simp at h

/-- What stands behind a secret: those of the last k that are in a, and the end. -/
def tl (a : Nat) : Nat → List UInt8
  | 0 => [125]
  | k + 1 => if a.testBit (63 - k) then 44 :: (dec (63 - k) ++ tl a k) else tl a k
def hi (a : Nat) : Nat → Nat
  | 0 => 0
  | k + 1 => if a.testBit (63 - k) then onlyN (63 - k) ||| hi a k else hi a k
theorem tl_succ (a k : Nat) : tl a (k + 1) = if a.testBit (63 - k) then 44 :: (dec (63 - k) ++ tl a k) else tl a k := rfl
theorem hi_tb (a i : Nat) : ∀ k, k ≤ 64 → (hi a k).testBit i = (decide (64 - k ≤ i) && decide (i < 64) && a.testBit i)
  | 0, _ => by
    simp only [hi, Nat.zero_testBit]
    by_cases h : i < 64
    · rw [decide_eq_false (show ¬ 64 - 0 ≤ i by omega)]; rfl
    · rw [decide_eq_false h]; simp
  | k + 1, hk => by
    have ih := hi_tb a i k (by omega)
    simp only [hi]
    by_cases e : 63 - k = i
    · have h1 : decide (64 - k ≤ i) = false := by simp; omega
      have h2 : decide (64 - (k + 1) ≤ i) = true := by simp; omega
      have h3 : decide (i < 64) = true := by simp; omega
      rw [e, h2, h3]
      cases hb : a.testBit i
      · rw [if_neg (by decide), ih, h1]; rfl
      · rw [if_pos rfl, Nat.testBit_or, onlyN_tb]; simp
    · have h1 : decide (64 - (k + 1) ≤ i) = decide (64 - k ≤ i) := by simp only [decide_eq_decide]; omega
      rw [h1]
      split
      · rw [Nat.testBit_or, onlyN_tb, decide_eq_false e, Bool.false_or, ih]
      · exact ih
theorem tl_cases (a : Nat) : ∀ k, k ≤ 64 → (tl a k = [125] ∧ hi a k = 0) ∨ ∃ n, 64 - k ≤ n ∧ n < 64 ∧ tl a k = 44 :: (dec n ++ tl a (63 - n)) ∧ hi a k = onlyN n ||| hi a (63 - n)
  | 0, _ => .inl ⟨rfl, rfl⟩
  | k + 1, hk => by
    cases hb : a.testBit (63 - k)
    · have e1 : tl a (k + 1) = tl a k := by simp [tl, hb]
      have e2 : hi a (k + 1) = hi a k := by simp [hi, hb]
      rw [e1, e2]
      rcases tl_cases a k (by omega) with h | ⟨n, h1, h2⟩
      · exact .inl h
      · exact .inr ⟨n, by omega, h2⟩
    · refine .inr ⟨63 - k, by omega, by omega, ?_, ?_⟩
      · rw [show 63 - (63 - k) = k by omega]; simp [tl, hb]
      · rw [show 63 - (63 - k) = k by omega]; simp [hi, hb]

theorem parts (n : Nat) (hn : n < 64) (c : UInt8) (t : List UInt8) (hc : isDig c = false) :
    ndig (dec n ++ c :: t) = (dec n).length ∧ (dec n ++ c :: t).take (dec n).length = dec n ∧ (dec n ++ c :: t).getD (dec n).length 0 = c ∧ (dec n ++ c :: t).drop ((dec n).length + 1) = t := by
  refine ⟨ndig_nodig (dec n) c t (dec_dig ⟨n, hn⟩) hc, by simp, ?_, ?_⟩
  · rw [List.getD_eq_getElem?_getD, List.getElem?_append_right (Nat.le_refl _)]; simp
  · rw [List.drop_append]; simp

theorem run_tl (a : Nat) : ∀ (q k n : Nat), k ≤ 64 → k ≤ q → 64 - k ≤ n → n < 64 → run q k (dec n ++ tl a (63 - n)) = ((dec n ++ tl a (63 - n)).length, some (onlyN n ||| hi a (63 - n)))
  | 0, k, n, _, h1, h2, h3 => by omega
  | q + 1, k, n, hk, hq, h1, h2 => by
    rcases tl_cases a (63 - n) (by omega) with ⟨e1, e2⟩ | ⟨m, h3, h4, e1, e2⟩
    · obtain ⟨p1, p2, p3, p4⟩ := parts n h2 125 [] (by decide)
      rw [e1, e2]
      rw [run_close q k _ n (by rw [p1, p2]; exact fnd_dec n h2 k hk h1) (by rw [p1]; exact p3), p1]
      simp
    · obtain ⟨p1, p2, p3, p4⟩ := parts n h2 44 (dec m ++ tl a (63 - m)) (by decide)
      rw [e1, e2]
      rw [run_comma q k _ n (by rw [p1, p2]; exact fnd_dec n h2 k hk h1) (by rw [p1]; exact p3) (by omega), p1, p4]
      rw [run_tl a q (63 - n) m (by omega) (by omega) (by omega) h4]
      simp
      omega

theorem txt_tl (a : Nat) : ∀ k, k ≤ 64 → 1 < (txt a (64 - k)).length → txt a 64 ++ [125] = txt a (64 - k) ++ tl a k
  | 0, _, _ => rfl
  | k + 1, hk, h => by
    have e : 64 - k = (64 - (k + 1)) + 1 := by omega
    have e2 : 63 - k = 64 - (k + 1) := by omega
    cases hb : a.testBit (64 - (k + 1))
    · have h1 : txt a (64 - k) = txt a (64 - (k + 1)) := by rw [e, txt_succ, hb, if_neg (by decide)]
      rw [txt_tl a k (by omega) (by rw [h1]; exact h), h1, tl_succ, e2, hb, if_neg (by decide)]
    · have h1 : txt a (64 - k) = txt a (64 - (k + 1)) ++ [44] ++ dec (64 - (k + 1)) := by rw [e, txt_succ, hb, if_pos rfl, sep, if_pos h]
      rw [txt_tl a k (by omega) (by rw [h1, List.length_append, List.length_append]; omega), h1, tl_succ, e2, hb, if_pos rfl]
      simp

theorem first_bit (a : Nat) : ∀ k, k ≤ 64 → (∀ i, i < k → a.testBit i = false) ∨ ∃ n, n < k ∧ a.testBit n = true ∧ ∀ i, i < n → a.testBit i = false
  | 0, _ => .inl (fun i h => by omega)
  | k + 1, hk => by
    rcases first_bit a k (by omega) with h | ⟨n, h1, h2, h3⟩
    · cases hb : a.testBit k
      · exact .inl (fun i hi => by
          by_cases e : i = k
          · rw [e]; exact hb
          · exact h i (by omega))
      · exact .inr ⟨k, by omega, hb, h⟩
    · exact .inr ⟨n, by omega, h2, h3⟩

theorem dec_head : ∀ n : Fin 64, (dec n.val).getD 0 0 ≠ 125 := by decide +kernel
theorem getD_app (n : Nat) (t : List UInt8) : (dec n ++ t).getD 0 0 = (dec n).getD 0 0 := by
  have := (dec_len n).1
  rw [List.getD_eq_getElem?_getD, List.getD_eq_getElem?_getD, List.getElem?_append_left (by omega)]

theorem top_print (a : Nat) (ha : a < 18446744073709551616) : top (printL a) = ((printL a).length, some a) := by
  rcases first_bit a 64 (by decide) with h | ⟨n, h1, h2, h3⟩
  · have : a = 0 := by
      apply Nat.eq_of_testBit_eq
      intro i
      rw [Nat.zero_testBit]
      by_cases hi : i < 64
      · exact h i hi
      · exact tb_big a i ha (by omega)
    subst this
    decide +kernel
  · have e1 : txt a (n + 1) = 123 :: dec n := by
      rw [txt_succ, h2, if_pos rfl, txt_skip a 0 n (by omega) (fun i _ hi => h3 i hi)]
      rfl
    have e2 : printL a = 123 :: (dec n ++ tl a (63 - n)) := by
      unfold printL
      rw [txt_tl a (63 - n) (by omega) (by rw [show 64 - (63 - n) = n + 1 by omega, e1]; have := dec_len n; simp; omega), show 64 - (63 - n) = n + 1 by omega, e1]
      rfl
    have e3 : onlyN n ||| hi a (63 - n) = a := by
      apply Nat.eq_of_testBit_eq
      intro i
      rw [Nat.testBit_or, onlyN_tb, hi_tb a i _ (by omega)]
      by_cases e : n = i
      · subst e; simp [h2]
      · rw [decide_eq_false e, Bool.false_or]
        by_cases hi64 : i < 64
        · rw [decide_eq_true hi64, Bool.and_true]
          by_cases hin : i < n
          · rw [h3 i hin]; simp
          · rw [decide_eq_true (by omega)]; rfl
        · rw [tb_big a i ha (by omega)]; simp
    have e4 := run_tl a 64 64 n (by decide) (by decide) (by omega) h1
    rw [e3] at e4
    rw [e2]
    simp only [top]
    rw [if_pos trivial, if_neg (by rw [getD_app]; exact dec_head ⟨n, h1⟩), e4]
    simp
    omega

theorem parse_print (a : Nat) (ha : a < 18446744073709551616) : parseL (printL a) = (a, 0, 0) := by
  rw [parse_top, top_print a ha]
  simp only [answer, closedL]
  rw [if_neg (by omega)]
theorem parse_cut (a k : Nat) (ha : a < 18446744073709551616) (hk : k < (printL a).length) : parseL ((printL a).take k) = (0, 5, k) := by
  have hl : ((printL a).take k).length = k := by rw [List.length_take]; omega
  have h1 := begins_top (printL a) k (by omega)
  have h2 := begins_top ((printL a).take k) k (by omega)
  rw [List.take_take, Nat.min_self] at h2
  rw [top_print a ha] at h1
  have h3 := top_le ((printL a).take k)
  have t1 : k ≤ (top ((printL a).take k)).1 := by
    have := h1.1.symm.trans h2.1
    rw [decide_eq_true (show k ≤ ((printL a).length, some a).1 by simp only; omega)] at this
    exact of_decide_eq_true this.symm
  have t2 : (top ((printL a).take k)).1 = k := by omega
  have t3 : (top ((printL a).take k)).2 = none := by
    have := h1.2.1.symm.trans h2.2.1
    rw [t2, decide_eq_true rfl, decide_eq_false (show ¬ k = ((printL a).length, some a).1 by simp only; omega), Bool.false_and, Bool.true_and] at this
    simpa using this.symm
  rw [parse_top, show top ((printL a).take k) = (k, none) from Prod.ext t2 t3, hl]
  simp [answer, brokenL]
theorem parse_ok (l : List UInt8) (y e p : Nat) (h : parseL l = (y, e, p)) : (e = 0 → printL y = l ∧ p = 0 ∧ y < 18446744073709551616) ∧ (e ≠ 0 → y = 0 ∧ p ≤ l.length) := by
  rw [parse_top] at h
  have hl := top_le l
  cases ho : (top l).2 with
  | none =>
    simp only [answer, ho, brokenL] at h
    split at h
    · cases h; exact ⟨fun h => (by cases h), fun _ => ⟨rfl, hl.1⟩⟩
    · cases h; exact ⟨fun h => (by cases h), fun _ => ⟨rfl, hl.1⟩⟩
  | some a =>
    simp only [answer, ho, closedL] at h
    split at h
    · cases h; exact ⟨fun h => (by cases h), fun _ => ⟨rfl, hl.1⟩⟩
    · rename_i hn
      obtain ⟨rfl, rfl, rfl⟩ : a = y ∧ 0 = e ∧ 0 = p := by simpa using h
      have := top_text l a (Prod.ext (by simp only; omega) ho)
      exact ⟨fun _ => ⟨this.1, rfl, this.2⟩, fun h => absurd rfl h⟩
theorem print_inj (a b : Nat) (ha : a < 18446744073709551616) (hb : b < 18446744073709551616) (h : printL a = printL b) : a = b := by
  have h1 := parse_print a ha
  rw [h, parse_print b hb] at h1
  simpa using h1.symm
end Go.Proofs.YtjjhfmiegoohlaaDoor
