/- Which texts are the beginning of a label's, as the document says it: no Go in sight. -/
import Derived.Test.YtjjhfmiegoohlaaDoorM4
namespace Go.Proofs.YtjjhfmiegoohlaaDoor

theorem le_comm : ∀ (l m : List UInt8) (p : Nat), p ≤ comm l m ↔ p ≤ l.length ∧ p ≤ m.length ∧ l.take p = m.take p
  | l, m, 0 => by simp
  | [], m, p + 1 => by simp [comm]
  | _ :: _, [], p + 1 => by simp [comm]
  | a :: l, b :: m, p + 1 => by
    have := le_comm l m p
    simp only [comm, List.length_cons, List.take_succ_cons, List.cons.injEq, Nat.add_le_add_iff_right]
    by_cases e : a = b
    · rw [if_pos e]; simp [e, this]
    · rw [if_neg e]; simp [e]

/-- Does t begin with s? -/
def isPre (t s : List UInt8) : Bool := decide (s.length ≤ t.length) && (t.take s.length == s)
/-- Does the numeral of one of the last k secrets begin with s? -/
def anyP (s : List UInt8) : Nat → Bool
  | 0 => false
  | k + 1 => isPre (dec (63 - k)) s || anyP s k

theorem isPre_comm (rest t : List UInt8) (p : Nat) (hp : p ≤ rest.length) : isPre t (rest.take p) = decide (p ≤ comm rest t) := by
  have hl : (rest.take p).length = p := by rw [List.length_take]; omega
  rw [Bool.eq_iff_iff, decide_eq_true_eq, le_comm, isPre, hl]
  simp only [Bool.and_eq_true, decide_eq_true_eq, beq_iff_eq]
  exact ⟨fun h => ⟨hp, h.1, h.2.symm⟩, fun h => ⟨h.2.1, h.2.2.symm⟩⟩
theorem anyP_mc (rest : List UInt8) (p : Nat) (hp : p ≤ rest.length) (h1 : 1 ≤ p) : ∀ k, anyP (rest.take p) k = decide (p ≤ mc rest k)
  | 0 => by simp [anyP, mc]; omega
  | k + 1 => by
    rw [anyP, isPre_comm rest _ p hp, anyP_mc rest p hp h1 k, mc, Bool.eq_iff_iff]
    simp only [Bool.or_eq_true, decide_eq_true_eq]
    omega

/-- The document's own way: secrets, rising, of the last k, as much as there is; A is what was read. -/
def bg : Nat → Nat → List UInt8 → Nat → Bool × Bool × Nat
  | 0, _, _, _ => (false, false, 0)
  | q + 1, k, s, A =>
    if ndig s = s.length then (anyP s k, false, 0)
    else match fnd (s.take (ndig s)) k with
      | none => (false, false, 0)
      | some n =>
        if s.getD (ndig s) 0 = 125 then (decide (ndig s + 1 = s.length), decide (ndig s + 1 = s.length), A ||| onlyN n)
        else if s.getD (ndig s) 0 = 44 then
          if n = 63 then (false, false, 0) else if ndig s + 1 = s.length then (true, false, 0) else bg q (63 - n) (s.drop (ndig s + 1)) (A ||| onlyN n)
        else (false, false, 0)

theorem run_pos : ∀ (q k : Nat) (rest : List UInt8), (run q k rest).2.isSome = true → 1 ≤ (run q k rest).1
  | 0, k, rest, h => by simp [run] at h
  | q + 1, k, rest, h => by
    cases hf : fnd (rest.take (ndig rest)) k with
    | none => rw [run_none q k rest hf] at h; simp at h
    | some n =>
      by_cases h125 : rest.getD (ndig rest) 0 = 125
      · rw [run_close q k rest n hf h125]; simp
      · by_cases h44 : rest.getD (ndig rest) 0 = 44 ∧ n < 63
        · rw [run_comma q k rest n hf h44.1 h44.2]; simp; omega
        · rw [run_other q k rest n hf h125 h44] at h; simp at h

theorem bg_run : ∀ (q k : Nat) (rest : List UInt8) (A p : Nat), k ≤ q → k ≤ 64 → 1 ≤ p → p ≤ rest.length →
    (bg q k (rest.take p) A).1 = decide (p ≤ (run q k rest).1) ∧ (bg q k (rest.take p) A).2.1 = (decide (p = (run q k rest).1) && (run q k rest).2.isSome) ∧
    ((bg q k (rest.take p) A).2.1 = true → (bg q k (rest.take p) A).2.2 = A ||| (run q k rest).2.getD 0)
  | 0, k, rest, A, p, _, _, h1, _ => by
    simp only [bg, run]
    refine ⟨?_, ?_, fun h => by cases h⟩
    · simp; omega
    · simp
  | q + 1, k, rest, A, p, hkq, hk, h1, hp => by
    have hl : (rest.take p).length = p := by rw [List.length_take]; omega
    have hd := ndig_le rest
    have hnd := ndig_take rest p
    have hm := mc_le rest k hk
    have hmp := anyP_mc rest p hp h1 k
    by_cases hpd : p ≤ ndig rest
    · have e1 : ndig (rest.take p) = (rest.take p).length := by rw [hnd, hl]; omega
      have e2 : bg (q + 1) k (rest.take p) A = (anyP (rest.take p) k, false, 0) := by simp only [bg]; rw [if_pos e1]
      rw [e2, hmp]
      refine ⟨?_, ?_, fun h => by cases h⟩
      · cases hf : fnd (rest.take (ndig rest)) k with
        | none => rw [run_none q k rest hf]
        | some n =>
          obtain ⟨r1, r2, r3⟩ := fnd_range _ k n hk hf
          have hge : p ≤ mc rest k := by
            have h2 := mc_ge rest k n hk r1 r2
            rw [r3, comm_take rest (ndig rest) hd] at h2
            omega
          by_cases h125 : rest.getD (ndig rest) 0 = 125
          · rw [run_close q k rest n hf h125, decide_eq_true hge, decide_eq_true (by simp only; omega)]
          · by_cases h44 : rest.getD (ndig rest) 0 = 44 ∧ n < 63
            · rw [run_comma q k rest n hf h44.1 h44.2, decide_eq_true hge, decide_eq_true (by simp only; omega)]
            · rw [run_other q k rest n hf h125 h44]
      · cases hf : fnd (rest.take (ndig rest)) k with
        | none => rw [run_none q k rest hf]; simp
        | some n =>
          by_cases h125 : rest.getD (ndig rest) 0 = 125
          · rw [run_close q k rest n hf h125]; simp; omega
          · by_cases h44 : rest.getD (ndig rest) 0 = 44 ∧ n < 63
            · rw [run_comma q k rest n hf h44.1 h44.2]
              simp only
              rw [decide_eq_false (by omega)]; rfl
            · rw [run_other q k rest n hf h125 h44]; simp
    · have e0 : ndig (rest.take p) = ndig rest := by rw [hnd]; omega
      have e1 : (rest.take p).take (ndig rest) = rest.take (ndig rest) := by rw [List.take_take]; congr 1; omega
      have e2 : (rest.take p).getD (ndig rest) 0 = rest.getD (ndig rest) 0 := by
        rw [List.getD_eq_getElem?_getD, List.getD_eq_getElem?_getD, List.getElem?_take, if_pos (by omega)]
      have e3 : (rest.take p).drop (ndig rest + 1) = (rest.drop (ndig rest + 1)).take (p - (ndig rest + 1)) := by rw [List.drop_take]
      simp only [bg]
      rw [hl, e0, e1, e2, e3, if_neg (by omega)]
      have hmc : decide (p ≤ mc rest k) = false := by simp; omega
      cases hf : fnd (rest.take (ndig rest)) k with
      | none =>
        rw [run_none q k rest hf]
        exact ⟨hmc.symm, by simp, fun h => by cases h⟩
      | some n =>
        obtain ⟨r1, r2, r3⟩ := fnd_range _ k n hk hf
        by_cases h125 : rest.getD (ndig rest) 0 = 125
        · rw [run_close q k rest n hf h125]
          simp only
          rw [if_pos h125]
          refine ⟨?_, ?_, fun _ => rfl⟩
          · simp only [decide_eq_decide]; omega
          · simp only [Option.isSome_some, Bool.and_true, decide_eq_decide]; omega
        · by_cases h44 : rest.getD (ndig rest) 0 = 44
          · by_cases h63 : n = 63
            · rw [run_other q k rest n hf h125 (fun h => by omega)]
              simp only
              rw [if_neg h125, if_pos h44, if_pos h63]
              exact ⟨hmc.symm, by simp, fun h => by cases h⟩
            · rw [run_comma q k rest n hf h44 (by omega)]
              simp only
              rw [if_neg h125, if_pos h44, if_neg h63]
              by_cases he : ndig rest + 1 = p
              · rw [if_pos he]
                refine ⟨(decide_eq_true (by omega)).symm, ?_, fun h => by cases h⟩
                have := run_pos q (63 - n) (rest.drop (ndig rest + 1))
                cases ho : (run q (63 - n) (rest.drop (ndig rest + 1))).2 with
                | none => simp
                | some a =>
                  rw [ho] at this
                  have := this rfl
                  simp only
                  rw [decide_eq_false (by omega)]; rfl
              · rw [if_neg he]
                have ih := bg_run q (63 - n) (rest.drop (ndig rest + 1)) (A ||| onlyN n) (p - (ndig rest + 1)) (by omega) (by omega) (by omega) (by rw [List.length_drop]; omega)
                refine ⟨?_, ?_, ?_⟩
                · rw [ih.1]; simp only [decide_eq_decide]; omega
                · rw [ih.2.1, Option.isSome_map]; congr 1; simp only [decide_eq_decide]; omega
                · intro h
                  rw [ih.2.2 h]
                  have h2 := ih.2.1
                  rw [h] at h2
                  cases ho : (run q (63 - n) (rest.drop (ndig rest + 1))).2 with
                  | none => rw [ho] at h2; simp at h2
                  | some a => simp [Nat.or_assoc]
          · rw [run_other q k rest n hf h125 (fun h => h44 h.1)]
            simp only
            rw [if_neg h125, if_neg h44]
            exact ⟨hmc.symm, by simp, fun h => by cases h⟩
end Go.Proofs.YtjjhfmiegoohlaaDoor
