/- How much two texts have in common at their beginning: no Go in sight. -/
import Derived.Test.YtjjhfmiegoohlaaDoorM1
namespace Go.Proofs.YtjjhfmiegoohlaaDoor

def comm : List UInt8 → List UInt8 → Nat
  | a :: l, b :: m => if a = b then comm l m + 1 else 0
  | _, _ => 0

theorem comm_le : ∀ l m : List UInt8, comm l m ≤ l.length ∧ comm l m ≤ m.length
  | [], m => by simp [comm]
  | _ :: _, [] => by simp [comm]
  | a :: l, b :: m => by
    have := comm_le l m
    simp only [comm]
    split <;> simp <;> omega

theorem len_eq (s : ByteArray) : s.data.toList.length = s.size := by rw [Array.length_toList]; rfl

theorem drop_cons (s : ByteArray) (k : Nat) (h : k < s.size) : s.data.toList.drop k = s[k] :: s.data.toList.drop (k + 1) := by
  have h' : k < s.data.toList.length := by rw [len_eq]; exact h
  rw [List.drop_eq_getElem_cons h']
  rfl

theorem comm_yes (s t : ByteArray) (k : Nat) (h1 : k < s.size) (h2 : k < t.size) (he : s[k] = t[k]) : comm (s.data.toList.drop k) (t.data.toList.drop k) = comm (s.data.toList.drop (k + 1)) (t.data.toList.drop (k + 1)) + 1 := by
  rw [drop_cons s k h1, drop_cons t k h2]; simp only [comm]; rw [if_pos he]
theorem comm_no (s t : ByteArray) (k : Nat) (h1 : k < s.size) (h2 : k < t.size) (he : s[k] ≠ t[k]) : comm (s.data.toList.drop k) (t.data.toList.drop k) = 0 := by
  rw [drop_cons s k h1, drop_cons t k h2]; simp only [comm]; rw [if_neg he]
theorem comm_end1 (s t : ByteArray) (k : Nat) (h : s.size ≤ k) : comm (s.data.toList.drop k) (t.data.toList.drop k) = 0 := by
  rw [List.drop_eq_nil_of_le (by rw [len_eq]; exact h)]; simp [comm]
theorem comm_end2 (s t : ByteArray) (k : Nat) (h : t.size ≤ k) : comm (s.data.toList.drop k) (t.data.toList.drop k) = 0 := by
  rw [List.drop_eq_nil_of_le (as := t.data.toList) (by rw [len_eq]; exact h)]
  cases s.data.toList.drop k <;> simp [comm]

/-- What is answered: the label, the error, its place. -/
def closedL (len a e : Nat) : Nat × Nat × Nat := if e < len then (0, 6, e) else (a, 0, 0)
def brokenL (len far : Nat) : Nat × Nat × Nat := if far = len then (0, 5, far) else (0, 4, far)

/-- The rounds that are left, m of them: the secret 64 - m is tried next at the place p. -/
def pgo (l : List UInt8) : Nat → Nat → Nat → Nat → Nat × Nat × Nat
  | 0, _, _, far => brokenL l.length far
  | m + 1, a, p, far =>
    if comm (l.drop p) (dec (63 - m)) < (dec (63 - m)).length ∨ p + comm (l.drop p) (dec (63 - m)) = l.length then pgo l m a p (max far (p + comm (l.drop p) (dec (63 - m))))
    else if l.getD (p + comm (l.drop p) (dec (63 - m))) 0 = 125 then closedL l.length (a ||| onlyN (63 - m)) (p + comm (l.drop p) (dec (63 - m)) + 1)
    else if l.getD (p + comm (l.drop p) (dec (63 - m))) 0 = 44 then
      if m = 0 then brokenL l.length (max far (p + comm (l.drop p) (dec (63 - m)))) else pgo l m (a ||| onlyN (63 - m)) (p + comm (l.drop p) (dec (63 - m)) + 1) (p + comm (l.drop p) (dec (63 - m)) + 1)
    else pgo l m a p (max far (p + comm (l.drop p) (dec (63 - m))))

def parseL (l : List UInt8) : Nat × Nat × Nat :=
  if comm l [123, 125] = 2 then closedL l.length 0 2
  else if comm l [123] = 0 then brokenL l.length 0
  else pgo l 64 0 1 1

theorem pgo_end (l : List UInt8) (A P F : Nat) : pgo l (64 - 64) A P F = brokenL l.length F := rfl

theorem pgo_skip {l : List UInt8} {k A P F c : Nat} (hk : k < 64) (hc : comm (l.drop P) (dec k) = c) (h : c < (dec k).length ∨ P + c = l.length) : pgo l (64 - k) A P F = pgo l (64 - (k + 1)) A P (max F (P + c)) := by
  subst hc
  rw [show 64 - k = (63 - k) + 1 by omega, show 64 - (k + 1) = 63 - k by omega, pgo, show 63 - (63 - k) = k by omega, if_pos h]
theorem pgo_close {l : List UInt8} {k A P F c : Nat} (hk : k < 64) (hc : comm (l.drop P) (dec k) = c) (h : ¬ (c < (dec k).length ∨ P + c = l.length)) (h1 : l.getD (P + c) 0 = 125) : pgo l (64 - k) A P F = closedL l.length (A ||| onlyN k) (P + c + 1) := by
  subst hc
  rw [show 64 - k = (63 - k) + 1 by omega, pgo, show 63 - (63 - k) = k by omega, if_neg h, if_pos h1]
theorem pgo_last {l : List UInt8} {k A P F c : Nat} (_hk : k < 64) (hc : comm (l.drop P) (dec k) = c) (h : ¬ (c < (dec k).length ∨ P + c = l.length)) (h1 : l.getD (P + c) 0 = 44) (h63 : k = 63) : pgo l (64 - k) A P F = brokenL l.length (max F (P + c)) := by
  subst hc
  rw [show 64 - k = (63 - k) + 1 by omega, pgo, show 63 - (63 - k) = k by omega, if_neg h, if_neg (by rw [h1]; decide), if_pos h1, if_pos (by omega)]
theorem pgo_comma {l : List UInt8} {k A P F c : Nat} (hk : k < 64) (hc : comm (l.drop P) (dec k) = c) (h : ¬ (c < (dec k).length ∨ P + c = l.length)) (h1 : l.getD (P + c) 0 = 44) (h63 : k < 63) : pgo l (64 - k) A P F = pgo l (64 - (k + 1)) (A ||| onlyN k) (P + c + 1) (P + c + 1) := by
  subst hc
  rw [show 64 - k = (63 - k) + 1 by omega, show 64 - (k + 1) = 63 - k by omega, pgo, show 63 - (63 - k) = k by omega, if_neg h, if_neg (by rw [h1]; decide), if_pos h1, if_neg (by omega)]
theorem pgo_other {l : List UInt8} {k A P F c : Nat} (hk : k < 64) (hc : comm (l.drop P) (dec k) = c) (h : ¬ (c < (dec k).length ∨ P + c = l.length)) (h1 : l.getD (P + c) 0 ≠ 125) (h2 : l.getD (P + c) 0 ≠ 44) : pgo l (64 - k) A P F = pgo l (64 - (k + 1)) A P (max F (P + c)) := by
  subst hc
  rw [show 64 - k = (63 - k) + 1 by omega, show 64 - (k + 1) = 63 - k by omega, pgo, show 63 - (63 - k) = k by omega, if_neg h, if_neg h1, if_neg h2]

theorem getD_eq (s : ByteArray) (i : Nat) (h : i < s.size) : s.data.toList.getD i 0 = s[i] := by
  have h' : i < s.data.toList.length := by rw [len_eq]; exact h
  rw [List.getD_eq_getElem?_getD, List.getElem?_eq_getElem h']; rfl

theorem or_lt (a k : Nat) (ha : a < 18446744073709551616) (hk : k < 64) : a ||| onlyN k < 18446744073709551616 := by
  have := Nat.or_lt_two_pow (n := 64) (x := a) (y := onlyN k) (by simpa using ha) (by simpa using onlyN_lt k hk)
  simpa using this

end Go.Proofs.YtjjhfmiegoohlaaDoor
