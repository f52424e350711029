/- A whole text: how much of it is the beginning of a label's, and the label: no Go in sight. -/
import Derived.Test.YtjjhfmiegoohlaaDoorM5
namespace Go.Proofs.YtjjhfmiegoohlaaDoor

/-- How much of a text is the beginning of a label's; and the label, if it is closed there. -/
def top : List UInt8 → Nat × Option Nat
  | [] => (0, none)
  | c :: rest => if c = 123 then (if rest.getD 0 0 = 125 then (2, some 0) else (1 + (run 64 64 rest).1, (run 64 64 rest).2)) else (0, none)

/-- Is a text the beginning of a label's; is it one, and which? -/
def beginsL (s : List UInt8) : Bool × Bool × Nat :=
  if s = [] then (true, false, 0) else if s.getD 0 0 ≠ 123 then (false, false, 0) else if s = [123] then (true, false, 0) else if s = [123, 125] then (true, true, 0) else bg 64 64 (s.drop 1) 0

def answer (len : Nat) (t : Nat × Option Nat) : Nat × Nat × Nat :=
  match t.2 with
  | none => brokenL len t.1
  | some a => closedL len a t.1

theorem parse_top (l : List UInt8) : parseL l = answer l.length (top l) := by
  unfold parseL
  cases l with
  | nil => simp [comm, top, answer]
  | cons c rest =>
    by_cases hc : c = 123
    · subst hc
      cases rest with
      | nil =>
        have e1 : comm [(123 : UInt8)] [123, 125] = 1 := by decide
        have e2 : comm [(123 : UInt8)] [123] = 1 := by decide
        rw [e1, e2, if_neg (by decide), if_neg (by decide), pgo_run _ 64 64 0 1 1 (by decide) (by decide) (by decide) (by decide) (by decide)]
        decide +kernel
      | cons d rest =>
        by_cases hd : d = 125
        · subst hd
          have e1 : comm ((123 : UInt8) :: 125 :: rest) [123, 125] = 2 := by simp [comm]
          rw [e1, if_pos rfl]
          simp [top, answer]
        · have e1 : comm ((123 : UInt8) :: d :: rest) [123, 125] = 1 := by simp [comm, hd]
          have e2 : comm ((123 : UInt8) :: d :: rest) [123] = 1 := by simp [comm]
          rw [e1, e2, if_neg (by decide), if_neg (by decide), pgo_run _ 64 64 0 1 1 (by decide) (by decide) (by simp) (by decide) (by omega)]
          have e3 : top (123 :: d :: rest) = (1 + (run 64 64 (d :: rest)).1, (run 64 64 (d :: rest)).2) := by simp [top, hd]
          rw [e3]
          simp only [List.drop_succ_cons, List.drop_zero, fin, answer]
          generalize run 64 64 (d :: rest) = r
          obtain ⟨L, o⟩ := r
          cases o with
          | none => simp only; congr 1; omega
          | some a => simp only; rw [Nat.zero_or]
    · have e1 : comm (c :: rest) [123, 125] = 0 := by simp [comm, hc]
      have e2 : comm (c :: rest) [123] = 0 := by simp [comm, hc]
      rw [e1, e2, if_neg (by decide), if_pos rfl]
      simp [top, hc, answer]

theorem begins_top (l : List UInt8) (p : Nat) (hp : p ≤ l.length) :
    (beginsL (l.take p)).1 = decide (p ≤ (top l).1) ∧ (beginsL (l.take p)).2.1 = (decide (p = (top l).1) && (top l).2.isSome) ∧
    ((beginsL (l.take p)).2.1 = true → (beginsL (l.take p)).2.2 = (top l).2.getD 0) := by
  cases p with
  | zero =>
    simp only [List.take_zero, beginsL, if_pos]
    refine ⟨by simp, ?_, fun h => by cases h⟩
    cases l with
    | nil => simp [top]
    | cons c rest =>
      simp only [top]
      split
      · split
        · simp
        · rw [decide_eq_false (by simp only; omega)]; rfl
      · simp
  | succ p =>
    cases l with
    | nil => simp at hp
    | cons c rest =>
      by_cases hc : c = 123
      · subst hc
        have hlen : p ≤ rest.length := by simpa using hp
        rw [List.take_succ_cons]
        unfold beginsL
        rw [if_neg (by simp), if_neg (by simp)]
        cases p with
        | zero =>
          rw [List.take_zero, if_pos rfl]
          refine ⟨?_, ?_, fun h => by cases h⟩
          · simp only [top, if_pos]
            split <;> simp
          · simp only [top, if_pos]
            split
            · simp
            · have := run_pos 64 64 rest
              cases ho : (run 64 64 rest).2 with
              | none => simp
              | some a =>
                rw [ho] at this
                have := this rfl
                simp only
                rw [decide_eq_false (by omega)]; rfl
        | succ p =>
          cases rest with
          | nil => simp at hlen
          | cons d rest =>
            rw [List.take_succ_cons, if_neg (by simp)]
            by_cases hd : d = 125
            · subst hd
              have ht : top (123 :: 125 :: rest) = (2, some 0) := by simp [top]
              rw [ht]
              cases p with
              | zero => simp
              | succ p =>
                cases rest with
                | nil => simp at hlen
                | cons e rest =>
                  rw [List.take_succ_cons, if_neg (by simp)]
                  have h0 : bg 64 64 ((123 :: 125 :: e :: rest.take p).drop 1) 0 = (false, false, 0) := by
                    have n0 : ndig (125 :: e :: rest.take p) = 0 := by simp [ndig, isDig]
                    have f0 : fnd [] 64 = none := by decide +kernel
                    simp only [List.drop_succ_cons, List.drop_zero]
                    rw [show (64 : Nat) = 63 + 1 from rfl, bg, n0, if_neg (by simp), List.take_zero]
                    rw [show (63 : Nat) + 1 = 64 from rfl, f0]
                  rw [h0]
                  refine ⟨by simp, by simp, fun h => by cases h⟩
            · have ht : top (123 :: d :: rest) = (1 + (run 64 64 (d :: rest)).1, (run 64 64 (d :: rest)).2) := by simp [top, hd]
              have hne : ¬ (123 :: d :: rest.take p) = [(123 : UInt8), 125] := by simp [hd]
              rw [ht, if_neg hne]
              simp only [List.drop_succ_cons, List.drop_zero]
              have h := bg_run 64 64 (d :: rest) 0 (p + 1) (by decide) (by decide) (by omega) (by simpa using hlen)
              rw [List.take_succ_cons] at h
              refine ⟨?_, ?_, ?_⟩
              · rw [h.1]; simp only [decide_eq_decide]; omega
              · rw [h.2.1]; congr 1; simp only [decide_eq_decide]; omega
              · intro hh; rw [h.2.2 hh, Nat.zero_or]
      · have ht : top (c :: rest) = (0, none) := by simp [top, hc]
        rw [ht, List.take_succ_cons]
        unfold beginsL
        rw [if_neg (by simp), if_pos (by simpa using hc)]
        refine ⟨by simp, by simp, fun h => by cases h⟩

theorem mc_two (l : List UInt8) : ∀ k, mc l k ≤ 2
  | 0 => by simp [mc]
  | k + 1 => by
    have h1 := (comm_le l (dec (63 - k))).2
    have h2 := dec_len (63 - k)
    have h3 := mc_two l k
    simp only [mc]
    omega
theorem run_le : ∀ (q k : Nat) (rest : List UInt8), k ≤ 64 → (run q k rest).1 ≤ rest.length ∧ (run q k rest).1 ≤ 3 * q
  | 0, k, rest, _ => by simp [run]
  | q + 1, k, rest, hk => by
    have h0 := ndig_le rest
    have h1 := mc_le rest k hk
    have h2 := mc_two rest k
    have hin : rest.getD (ndig rest) 0 ≠ 0 → ndig rest < rest.length := by
      intro h
      by_cases hlt : ndig rest < rest.length
      · exact hlt
      · exact absurd (by rw [List.getD_eq_getElem?_getD, List.getElem?_eq_none (by omega)]; rfl) h
    cases hf : fnd (rest.take (ndig rest)) k with
    | none => rw [run_none q k rest hf]; simp only; omega
    | some n =>
      obtain ⟨r1, r2, r3⟩ := fnd_range _ k n hk hf
      have hd : ndig rest ≤ 2 := by
        have := congrArg List.length r3
        rw [List.length_take] at this
        have := dec_len n
        omega
      by_cases h125 : rest.getD (ndig rest) 0 = 125
      · have := hin (by rw [h125]; decide)
        rw [run_close q k rest n hf h125]; simp only; omega
      · by_cases h44 : rest.getD (ndig rest) 0 = 44 ∧ n < 63
        · have := hin (by rw [h44.1]; decide)
          have ih := run_le q (63 - n) (rest.drop (ndig rest + 1)) (by omega)
          rw [List.length_drop] at ih
          rw [run_comma q k rest n hf h44.1 h44.2]; simp only; omega
        · rw [run_other q k rest n hf h125 h44]; simp only; omega
theorem top_le (l : List UInt8) : (top l).1 ≤ l.length ∧ (top l).1 ≤ 193 := by
  cases l with
  | nil => simp [top]
  | cons c rest =>
    have h := run_le 64 64 rest (by decide)
    simp only [top]
    split
    · split
      · rename_i h125
        have : rest ≠ [] := by intro e; subst e; simp at h125
        have := List.length_pos_iff.2 this
        simp only [List.length_cons]; omega
      · simp only [List.length_cons]; omega
    · simp

section
variable (q k A : Nat) (s : List UInt8)
theorem bg_end (h : ndig s = s.length) : bg (q + 1) k s A = (anyP s k, false, 0) := by simp only [bg]; rw [if_pos h]
theorem bg_none (h : ndig s ≠ s.length) (hf : fnd (s.take (ndig s)) k = none) : bg (q + 1) k s A = (false, false, 0) := by simp only [bg]; rw [if_neg h]; simp only [hf]
theorem bg_close (n : Nat) (h : ndig s ≠ s.length) (hf : fnd (s.take (ndig s)) k = some n) (hc : s.getD (ndig s) 0 = 125) : bg (q + 1) k s A = (decide (ndig s + 1 = s.length), decide (ndig s + 1 = s.length), A ||| onlyN n) := by
  simp only [bg]; rw [if_neg h]; simp only [hf]; rw [if_pos hc]
theorem bg_last (h : ndig s ≠ s.length) (hf : fnd (s.take (ndig s)) k = some 63) (hc : s.getD (ndig s) 0 = 44) : bg (q + 1) k s A = (false, false, 0) := by
  simp only [bg]; rw [if_neg h]; simp only [hf]; rw [if_neg (by rw [hc]; decide), if_pos hc, if_pos trivial]
theorem bg_stop (n : Nat) (h : ndig s ≠ s.length) (hf : fnd (s.take (ndig s)) k = some n) (hc : s.getD (ndig s) 0 = 44) (hn : n ≠ 63) (he : ndig s + 1 = s.length) : bg (q + 1) k s A = (true, false, 0) := by
  simp only [bg]; rw [if_neg h]; simp only [hf]; rw [if_neg (by rw [hc]; decide), if_pos hc, if_neg hn, if_pos he]
theorem bg_comma (n : Nat) (h : ndig s ≠ s.length) (hf : fnd (s.take (ndig s)) k = some n) (hc : s.getD (ndig s) 0 = 44) (hn : n ≠ 63) (he : ndig s + 1 ≠ s.length) : bg (q + 1) k s A = bg q (63 - n) (s.drop (ndig s + 1)) (A ||| onlyN n) := by
  simp only [bg]; rw [if_neg h]; simp only [hf]; rw [if_neg (by rw [hc]; decide), if_pos hc, if_neg hn, if_neg he]
theorem bg_other (n : Nat) (h : ndig s ≠ s.length) (hf : fnd (s.take (ndig s)) k = some n) (hc : s.getD (ndig s) 0 ≠ 125) (hd : s.getD (ndig s) 0 ≠ 44) : bg (q + 1) k s A = (false, false, 0) := by
  simp only [bg]; rw [if_neg h]; simp only [hf]; rw [if_neg hc, if_neg hd]
end
theorem fnd_no (w : List UInt8) : ∀ k, k ≤ 64 → (∀ t, 64 - k ≤ t → t < 64 → dec t ≠ w) → fnd w k = none
  | 0, _, _ => rfl
  | k + 1, hk, h => by
    simp only [fnd]
    rw [if_neg (h (63 - k) (by omega) (by omega))]
    exact fnd_no w k (by omega) (fun t h1 h2 => h t (by omega) h2)
theorem ndig_at : ∀ (l : List UInt8) (k : Nat), k < ndig l → isDig (l.getD k 0) = true
  | [], k, h => by simp [ndig] at h
  | c :: l, k, h => by
    by_cases hc : isDig c = true
    · cases k with
      | zero => simpa using hc
      | succ k =>
        have e : ndig (c :: l) = ndig l + 1 := by simp [ndig, hc]
        rw [e] at h
        simpa using ndig_at l k (by omega)
    · have e : ndig (c :: l) = 0 := by simp [ndig, hc]
      omega
theorem anyP_step (s : List UInt8) (k : Nat) (hk : k < 64) : anyP s (64 - k) = (isPre (dec k) s || anyP s (64 - (k + 1))) := by
  rw [show 64 - k = (63 - k) + 1 by omega, anyP, show 63 - (63 - k) = k by omega, show 64 - (k + 1) = 63 - k by omega]
end Go.Proofs.YtjjhfmiegoohlaaDoor
