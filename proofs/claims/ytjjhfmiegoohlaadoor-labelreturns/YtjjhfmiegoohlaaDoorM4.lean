/- The texts of labels, read token by token: no Go in sight. -/
import Derived.Test.YtjjhfmiegoohlaaDoorM2
namespace Go.Proofs.YtjjhfmiegoohlaaDoor

def isDig (c : UInt8) : Bool := decide (48 ≤ c.toNat) && decide (c.toNat ≤ 57)
/-- How many digits a text begins with. -/
def ndig : List UInt8 → Nat
  | [] => 0
  | c :: l => if isDig c then ndig l + 1 else 0
/-- The secret, of the last k, whose numeral is the word. -/
def fnd (word : List UInt8) : Nat → Option Nat
  | 0 => none
  | k + 1 => if dec (63 - k) = word then some (63 - k) else fnd word k
/-- How much of the text is the beginning of the numeral of one of the last k secrets. -/
def mc (rest : List UInt8) : Nat → Nat
  | 0 => 0
  | k + 1 => max (comm rest (dec (63 - k))) (mc rest k)
/-- How much of the text might be secrets, rising, of the last k, and the label if they are closed there. -/
def run : Nat → Nat → List UInt8 → Nat × Option Nat
  | 0, _, _ => (0, none)
  | q + 1, k, rest =>
    match fnd (rest.take (ndig rest)) k with
    | none => (mc rest k, none)
    | some n =>
      if rest.getD (ndig rest) 0 = 125 then (ndig rest + 1, some (onlyN n))
      else if rest.getD (ndig rest) 0 = 44 ∧ n < 63 then (ndig rest + 1 + (run q (63 - n) (rest.drop (ndig rest + 1))).1, (run q (63 - n) (rest.drop (ndig rest + 1))).2.map (onlyN n ||| ·))
      else (mc rest k, none)

theorem ndig_le : ∀ l : List UInt8, ndig l ≤ l.length
  | [] => by simp [ndig]
  | c :: l => by
    have := ndig_le l
    simp only [ndig]
    split <;> simp <;> omega
theorem ndig_take : ∀ (l : List UInt8) (p : Nat), ndig (l.take p) = min p (ndig l)
  | [], p => by simp [ndig]
  | c :: l, 0 => by simp [ndig]
  | c :: l, p + 1 => by
    have := ndig_take l p
    simp only [List.take_succ_cons, ndig]
    split <;> omega
/-- A text all of digits. -/
def allDig (l : List UInt8) : Bool := l.all isDig
theorem comm_ndig : ∀ (l m : List UInt8), allDig m = true → comm l m ≤ ndig l
  | [], m, _ => by simp [comm]
  | _ :: _, [], _ => by simp [comm]
  | a :: l, b :: m, h => by
    simp only [allDig, List.all_cons, Bool.and_eq_true] at h
    have := comm_ndig l m h.2
    simp only [comm, ndig]
    by_cases e : a = b
    · rw [if_pos e, e, h.1, if_pos rfl]; omega
    · rw [if_neg e]; omega
theorem dec_dig : ∀ n : Fin 64, allDig (dec n.val) = true := by decide +kernel
theorem dec_inj : ∀ n m : Fin 64, dec n.val = dec m.val → n = m := by decide +kernel
theorem ndig_nodig : ∀ (l : List UInt8) (c : UInt8) (t : List UInt8), allDig l = true → isDig c = false → ndig (l ++ c :: t) = l.length
  | [], c, t, _, hc => by simp [ndig, hc]
  | a :: l, c, t, h, hc => by
    simp only [allDig, List.all_cons, Bool.and_eq_true] at h
    have := ndig_nodig l c t h.2 hc
    simp only [List.cons_append, ndig, h.1, if_pos, this, List.length_cons]
theorem ndig_all : ∀ (l : List UInt8), allDig (l.take (ndig l)) = true
  | [] => by simp [allDig]
  | c :: l => by
    have := ndig_all l
    simp only [ndig]
    split
    · rename_i h; simp only [List.take_succ_cons, allDig, List.all_cons, h, Bool.true_and]; exact this
    · simp [allDig]
theorem ndig_stop : ∀ (l : List UInt8), ndig l < l.length → isDig (l.getD (ndig l) 0) = false
  | [], h => by simp [ndig] at h
  | c :: l, h => by
    by_cases hc : isDig c = true
    · have e : ndig (c :: l) = ndig l + 1 := by simp [ndig, hc]
      rw [e] at h ⊢
      simpa using ndig_stop l (by simpa using h)
    · have e : ndig (c :: l) = 0 := by simp [ndig, hc]
      rw [e]
      simpa using hc

theorem comm_take : ∀ (l : List UInt8) (p : Nat), p ≤ l.length → comm l (l.take p) = p
  | l, 0, _ => by cases l <;> simp [comm]
  | [], p + 1, h => by simp at h
  | a :: l, p + 1, h => by
    simp only [List.take_succ_cons, comm, comm_take l p (by simpa using h)]
    rfl
theorem comm_all : ∀ (l m : List UInt8), comm l m = m.length → l.take m.length = m
  | l, [], _ => by simp
  | [], b :: m, h => by simp [comm] at h
  | a :: l, b :: m, h => by
    simp only [comm] at h
    by_cases e : a = b
    · rw [if_pos e] at h
      have := comm_all l m (by simpa using h)
      simp [e, this]
    · rw [if_neg e] at h; simp at h

theorem fnd_range (w : List UInt8) : ∀ (k n : Nat), k ≤ 64 → fnd w k = some n → 64 - k ≤ n ∧ n < 64 ∧ dec n = w
  | 0, n, _, h => by simp [fnd] at h
  | k + 1, n, hk, h => by
    simp only [fnd] at h
    by_cases e : dec (63 - k) = w
    · rw [if_pos e] at h
      cases h
      exact ⟨by omega, by omega, e⟩
    · rw [if_neg e] at h
      have := fnd_range w k n (by omega) h
      exact ⟨by omega, this.2⟩
theorem fnd_dec (n : Nat) (hn : n < 64) : ∀ k, k ≤ 64 → 64 - k ≤ n → fnd (dec n) k = some n
  | 0, _, h => by omega
  | k + 1, hk, h => by
    simp only [fnd]
    by_cases e : 63 - k = n
    · rw [e, if_pos rfl]
    · rw [if_neg (fun he => e (by
        have := dec_inj ⟨63 - k, by omega⟩ ⟨n, hn⟩ he
        exact congrArg Fin.val this))]
      exact fnd_dec n hn k (by omega) (by omega)
theorem mc_le (l : List UInt8) : ∀ k, k ≤ 64 → mc l k ≤ ndig l
  | 0, _ => by simp [mc]
  | k + 1, hk => by
    have h1 := comm_ndig l (dec (63 - k)) (dec_dig ⟨63 - k, by omega⟩)
    have h2 := mc_le l k (by omega)
    simp only [mc]
    omega
theorem mc_ge (l : List UInt8) : ∀ k n, k ≤ 64 → 64 - k ≤ n → n < 64 → comm l (dec n) ≤ mc l k
  | 0, n, _, h, h' => by omega
  | k + 1, n, hk, h, h' => by
    simp only [mc]
    by_cases e : 63 - k = n
    · rw [e]; omega
    · have := mc_ge l k n (by omega) (by omega) h'
      omega

/-- What is answered of a text whose beginning, P bytes, is read to the label A, when r is what the rest is good for. -/
def fin (len A P F : Nat) (r : Nat × Option Nat) : Nat × Nat × Nat :=
  match r.2 with
  | none => brokenL len (max F (P + r.1))
  | some a => closedL len (A ||| a) (P + r.1)

section
variable (q k : Nat) (rest : List UInt8)
theorem run_none (h : fnd (rest.take (ndig rest)) k = none) : run (q + 1) k rest = (mc rest k, none) := by
  simp only [run, h]
theorem run_close (n : Nat) (h : fnd (rest.take (ndig rest)) k = some n) (hc : rest.getD (ndig rest) 0 = 125) : run (q + 1) k rest = (ndig rest + 1, some (onlyN n)) := by
  simp only [run, h]; rw [if_pos hc]
theorem run_comma (n : Nat) (h : fnd (rest.take (ndig rest)) k = some n) (hc : rest.getD (ndig rest) 0 = 44) (hn : n < 63) :
    run (q + 1) k rest = (ndig rest + 1 + (run q (63 - n) (rest.drop (ndig rest + 1))).1, (run q (63 - n) (rest.drop (ndig rest + 1))).2.map (onlyN n ||| ·)) := by
  simp only [run, h]; rw [if_neg (by rw [hc]; decide), if_pos ⟨hc, hn⟩]
theorem run_other (n : Nat) (h : fnd (rest.take (ndig rest)) k = some n) (hc : rest.getD (ndig rest) 0 ≠ 125) (hn : ¬ (rest.getD (ndig rest) 0 = 44 ∧ n < 63)) : run (q + 1) k rest = (mc rest k, none) := by
  simp only [run, h]; rw [if_neg hc, if_neg hn]
end

theorem run_zero : ∀ q rest, run q 0 rest = (0, none)
  | 0, _ => rfl
  | q + 1, rest => by rw [run_none q 0 rest rfl]; rfl

theorem getD_drop (l : List UInt8) (P c : Nat) : l.getD (P + c) 0 = (l.drop P).getD c 0 := by simp [List.getD_eq_getElem?_getD]

theorem isDig_stop : isDig 125 = false ∧ isDig 44 = false := by decide

/-- A numeral and a byte that is no digit behind it: so many digits. -/
theorem ndig_of (rest : List UInt8) (k c : Nat) (hk : k < 64) (hc : comm rest (dec k) = c) (hl : c = (dec k).length) (hn : isDig (rest.getD c 0) = false) (hlt : c < rest.length) : ndig rest = c ∧ rest.take c = dec k := by
  have h1 : rest.take c = dec k := by rw [hl]; exact comm_all rest (dec k) (by omega)
  have h2 : rest = dec k ++ rest.getD c 0 :: rest.drop (c + 1) := by
    rw [← h1]
    have : rest.getD c 0 = rest[c] := by rw [List.getD_eq_getElem?_getD, List.getElem?_eq_getElem hlt]; rfl
    rw [this, ← List.drop_eq_getElem_cons hlt, List.take_append_drop]
  refine ⟨?_, h1⟩
  have h3 := ndig_nodig (dec k) (rest.getD c 0) (rest.drop (c + 1)) (dec_dig ⟨k, hk⟩) hn
  rw [← h2] at h3
  omega

theorem pgo_run (l : List UInt8) : ∀ (k q A P F : Nat), k ≤ 64 → k ≤ q → P ≤ l.length → P ≤ F → F ≤ P + ndig (l.drop P) → pgo l k A P F = fin l.length A P F (run q k (l.drop P))
  | 0, q, A, P, F, _, _, _, hPF, _ => by
    rw [run_zero]
    simp only [fin, pgo, Nat.add_zero, Nat.max_eq_left hPF]
  | k + 1, 0, A, P, F, _, hq, _, _, _ => by omega
  | k + 1, q + 1, A, P, F, hk, hq, hP, hPF, hF => by
    have e64 : 64 - (63 - k) = k + 1 := by omega
    have e63 : 64 - (63 - k + 1) = k := by omega
    have hlen : (l.drop P).length = l.length - P := List.length_drop
    obtain ⟨c, hc⟩ : ∃ c, comm (l.drop P) (dec (63 - k)) = c := ⟨_, rfl⟩
    have hcl := comm_le (l.drop P) (dec (63 - k))
    have hcd := comm_ndig (l.drop P) (dec (63 - k)) (dec_dig ⟨63 - k, by omega⟩)
    rw [hc] at hcl hcd
    have hmc : mc (l.drop P) (k + 1) = max c (mc (l.drop P) k) := by simp only [mc, hc]
    have hmk := mc_le (l.drop P) k (by omega)
    -- the secret that is tried is none: the next one's answer is this one's
    have skip : (fnd ((l.drop P).take (ndig (l.drop P))) (k + 1) = some (63 - k) → ¬ (l.drop P).getD (ndig (l.drop P)) 0 = 125 ∧ ¬ (l.drop P).getD (ndig (l.drop P)) 0 = 44) →
        fin l.length A P F (run (q + 1) (k + 1) (l.drop P)) = pgo l k A P (max F (P + c)) := by
      intro hs
      rw [pgo_run l k (q + 1) A P (max F (P + c)) (by omega) (by omega) hP (by omega) (by omega)]
      by_cases e : dec (63 - k) = (l.drop P).take (ndig (l.drop P))
      · have hf : fnd ((l.drop P).take (ndig (l.drop P))) (k + 1) = some (63 - k) := by simp only [fnd]; rw [if_pos e]
        have hs' := hs hf
        rw [run_other q (k + 1) _ _ hf hs'.1 (fun h => hs'.2 h.1)]
        cases hf2 : fnd ((l.drop P).take (ndig (l.drop P))) k with
        | none => rw [run_none q k _ hf2]; simp only [fin, hmc]; congr 1; omega
        | some n => rw [run_other q k _ _ hf2 hs'.1 (fun h => hs'.2 h.1)]; simp only [fin, hmc]; congr 1; omega
      · have hf : fnd ((l.drop P).take (ndig (l.drop P))) (k + 1) = fnd ((l.drop P).take (ndig (l.drop P))) k := by simp only [fnd]; rw [if_neg e]
        cases hf2 : fnd ((l.drop P).take (ndig (l.drop P))) k with
        | none => rw [run_none q k _ hf2, run_none q (k + 1) _ (hf.trans hf2)]; simp only [fin, hmc]; congr 1; omega
        | some n =>
          by_cases h125 : (l.drop P).getD (ndig (l.drop P)) 0 = 125
          · rw [run_close q k _ n hf2 h125, run_close q (k + 1) _ n (hf.trans hf2) h125]; simp only [fin]
          · by_cases h44 : (l.drop P).getD (ndig (l.drop P)) 0 = 44 ∧ n < 63
            · rw [run_comma q k _ n hf2 h44.1 h44.2, run_comma q (k + 1) _ n (hf.trans hf2) h44.1 h44.2]
              simp only [fin]
              split
              · congr 1; omega
              · rfl
            · rw [run_other q k _ n hf2 h125 h44, run_other q (k + 1) _ n (hf.trans hf2) h125 h44]; simp only [fin, hmc]; congr 1; omega
    have hp := fun h => pgo_skip (l := l) (k := 63 - k) (A := A) (P := P) (F := F) (c := c) (by omega) hc h
    have same : fnd ((l.drop P).take (ndig (l.drop P))) (k + 1) = some (63 - k) → ndig (l.drop P) = c ∧ (dec (63 - k)).length = c := by
      intro hf
      have hd := (fnd_range _ (k + 1) _ hk hf).2.2
      have hnl := ndig_le (l.drop P)
      have h2 := comm_take (l.drop P) (ndig (l.drop P)) hnl
      rw [← hd, hc] at h2
      refine ⟨h2.symm, ?_⟩
      rw [hd, List.length_take]
      omega
    by_cases h1 : c < (dec (63 - k)).length ∨ P + c = l.length
    · have := hp h1
      rw [e64, e63] at this
      rw [this, ← skip ?_]
      intro hf
      obtain ⟨s1, s2⟩ := same hf
      have h3 : (l.drop P).getD (ndig (l.drop P)) 0 = 0 := by
        rw [List.getD_eq_getElem?_getD, List.getElem?_eq_none (by omega)]; rfl
      rw [h3]
      decide
    · have hc2 : c = (dec (63 - k)).length := by omega
      have hlt : c < (l.drop P).length := by omega
      have hg := getD_drop l P c
      by_cases h125 : (l.drop P).getD c 0 = 125
      · obtain ⟨d1, d2⟩ := ndig_of (l.drop P) (63 - k) c (by omega) hc hc2 (by rw [h125]; decide) hlt
        have hf : fnd ((l.drop P).take (ndig (l.drop P))) (k + 1) = some (63 - k) := by rw [d1, d2]; exact fnd_dec _ (by omega) _ hk (by omega)
        have := pgo_close (l := l) (k := 63 - k) (A := A) (P := P) (F := F) (c := c) (by omega) hc h1 (hg.trans h125)
        rw [e64] at this
        rw [this, run_close q (k + 1) _ _ hf (by rw [d1]; exact h125), d1]
        rfl
      · by_cases h44 : (l.drop P).getD c 0 = 44
        · obtain ⟨d1, d2⟩ := ndig_of (l.drop P) (63 - k) c (by omega) hc hc2 (by rw [h44]; decide) hlt
          have hf : fnd ((l.drop P).take (ndig (l.drop P))) (k + 1) = some (63 - k) := by rw [d1, d2]; exact fnd_dec _ (by omega) _ hk (by omega)
          by_cases h63 : 63 - k = 63
          · have := pgo_last (l := l) (k := 63 - k) (A := A) (P := P) (F := F) (c := c) (by omega) hc h1 (hg.trans h44) h63
            rw [e64] at this
            have hk0 : mc (l.drop P) k = 0 := by
              have : k = 0 := by omega
              rw [this]; rfl
            rw [this, run_other q (k + 1) _ _ hf (by rw [d1]; exact h125) (fun h => by omega)]
            simp only [fin, hmc, hk0]
            congr 1
            omega
          · have := pgo_comma (l := l) (k := 63 - k) (A := A) (P := P) (F := F) (c := c) (by omega) hc h1 (hg.trans h44) (by omega)
            rw [e64, e63] at this
            rw [this, run_comma q (k + 1) _ _ hf (by rw [d1]; exact h44) (by omega), d1, show 63 - (63 - k) = k by omega]
            rw [pgo_run l k q _ (P + c + 1) (P + c + 1) (by omega) (by omega) (by omega) (by omega) (by omega)]
            rw [List.drop_drop, show P + (c + 1) = P + c + 1 by omega]
            generalize run q k (l.drop (P + c + 1)) = r
            obtain ⟨L, o⟩ := r
            cases o with
            | none => simp only [fin, Option.map_none]; congr 1; omega
            | some a => simp only [fin, Option.map_some]; rw [Nat.or_assoc]; congr 1; omega
        · have := pgo_other (l := l) (k := 63 - k) (A := A) (P := P) (F := F) (c := c) (by omega) hc h1 (by rw [hg]; exact h125) (by rw [hg]; exact h44)
          rw [e64, e63] at this
          rw [this, ← skip ?_]
          intro hf
          rw [(same hf).1]
          exact ⟨h125, h44⟩
end Go.Proofs.YtjjhfmiegoohlaaDoor
