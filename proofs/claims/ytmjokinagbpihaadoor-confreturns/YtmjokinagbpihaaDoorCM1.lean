/- Instructions: which may be, and as bytes, over whole numbers. -/
import Derived.RowKit
namespace Go.Proofs.YtmjokinagbpihaaDoor
open Go.RowKit

structure Ins where
  op : Int
  a : Int
  b : Int
  c : Int
  imm : Int

def hA (o : Int) : Bool := (decide (1 ≤ o) && decide (o ≤ 21)) || (decide (23 ≤ o) && decide (o ≤ 28)) || (decide (31 ≤ o) && decide (o ≤ 33))
def hB (o : Int) : Bool := (decide (2 ≤ o) && decide (o ≤ 21)) || (decide (24 ≤ o) && decide (o ≤ 26))
def hC (o : Int) : Bool := (decide (3 ≤ o) && decide (o ≤ 19)) || decide (o = 24)
def hI (o : Int) : Bool := decide (o = 1) || (decide (22 ≤ o) && decide (o ≤ 23)) || (decide (29 ≤ o) && decide (o ≤ 30))

/-- What is wrong with a register. -/
def regE (r : Int) (h : Bool) : Int := if h = true then (if 0 ≤ r ∧ r < 8 then 0 else 10) else (if r = 0 then 0 else 11)
/-- What is wrong with Imm. -/
def immE (o i n k : Int) : Int :=
  if hI o = true then (if o = 22 ∨ o = 23 then (if 0 ≤ i ∧ i ≤ n then 0 else 12) else if o = 29 ∨ o = 30 then (if 0 ≤ i ∧ i < k then 0 else 13) else 0) else if i = 0 then 0 else 11

/-- What is wrong with an instruction, and in which field. -/
def wrong (x : Ins) (n k : Int) : Int × Int :=
  if ¬ (0 ≤ x.op ∧ x.op < 34) then (9, 0) else
  if regE x.a (hA x.op) ≠ 0 then (regE x.a (hA x.op), 1) else
  if regE x.b (hB x.op) ≠ 0 then (regE x.b (hB x.op), 2) else
  if regE x.c (hC x.op) ≠ 0 then (regE x.c (hC x.op), 3) else
  if immE x.op x.imm n k ≠ 0 then (immE x.op x.imm n k, 4) else (0, 0)

/-- Of the instructions from the place i on the first that is wrong. -/
def firstE (n k : Int) : List Ins → Int → Int × Int
  | [], _ => (0, 0)
  | x :: r, i => if (wrong x n k).1 ≠ 0 then ((wrong x n k).1, i) else firstE n k r (i + 1)

def mayL (l : List Ins) (k : Int) : Int × Int :=
  if ¬ (0 ≤ k ∧ k ≤ 8) then (1, 0) else if 256 < l.length then (3, 256) else firstE l.length k l 0

instance : Inhabited Ins := ⟨⟨0, 0, 0, 0, 0⟩⟩

theorem firstE_at (n k : Int) : ∀ (l : List Ins) (s : Int) (i : Nat), i < l.length → (∀ j, j < i → (wrong (l.getD j default) n k).1 = 0) → (wrong (l.getD i default) n k).1 ≠ 0 → firstE n k l s = ((wrong (l.getD i default) n k).1, s + i)
  | [], _, i, h, _, _ => absurd h (Nat.not_lt_zero i)
  | x :: r, s, 0, _, _, h => by
    have h' : (wrong x n k).1 ≠ 0 := by simpa using h
    simp only [firstE, if_pos h', List.getD_cons_zero]
    simp
  | x :: r, s, i + 1, hi, hb, h => by
    have h0 : ¬ (wrong x n k).1 ≠ 0 := by
      have := hb 0 (by omega)
      simpa using this
    have ih := firstE_at n k r (s + 1) i (by simpa using hi) (fun j hj => by simpa using hb (j + 1) (by omega)) (by simpa using h)
    simp only [firstE, if_neg h0, ih, List.getD_cons_succ, Prod.mk.injEq, true_and]
    omega

theorem firstE_none (n k : Int) : ∀ (l : List Ins) (s : Int), (∀ j, j < l.length → (wrong (l.getD j default) n k).1 = 0) → firstE n k l s = (0, 0)
  | [], _, _ => rfl
  | x :: r, s, hb => by
    have h0 : ¬ (wrong x n k).1 ≠ 0 := by
      have := hb 0 (by simp)
      simpa using this
    simp only [firstE, if_neg h0]
    exact firstE_none n k r (s + 1) (fun j hj => by simpa using hb (j + 1) (by simpa using hj))

theorem firstE_zero (n k : Int) : ∀ (l : List Ins) (s : Int), (firstE n k l s).1 = 0 → ∀ j, j < l.length → (wrong (l.getD j default) n k).1 = 0
  | [], _, _, j, hj => absurd hj (Nat.not_lt_zero j)
  | x :: r, s, h, j, hj => by
    by_cases h0 : (wrong x n k).1 ≠ 0
    · simp only [firstE, if_pos h0] at h
      exact absurd h h0
    · simp only [firstE, if_neg h0] at h
      cases j with
      | zero => simpa using h0
      | succ j => simpa using firstE_zero n k r (s + 1) h j (by simpa using hj)

/-- A number's rest by 256, by 2^64. -/
def b8 (z : Int) : Nat := (z % 256).toNat
def u64 (z : Int) : Nat := (z % 18446744073709551616).toNat
def byteAt (z : Int) (j : Nat) : Nat := u64 z / 2 ^ (8 * j) % 256

def insB (x : Ins) : List Nat := [b8 x.op, b8 x.a, b8 x.b, b8 x.c] ++ (List.range 8).map (byteAt x.imm)
def encB (l : List Ins) : List Nat := l.flatMap insB

theorem insB_len (x : Ins) : (insB x).length = 12 := by simp [insB]
theorem encB_len (l : List Ins) : (encB l).length = 12 * l.length := by
  induction l with
  | nil => rfl
  | cons x r ih => simp only [encB, List.flatMap_cons, List.length_append, insB_len, List.length_cons] at *; omega
theorem encB_snoc (l : List Ins) (x : Ins) : encB (l ++ [x]) = encB l ++ insB x := by simp [encB]

/-- Eight bytes, the lowest first. -/
def sumB (bs : List Nat) (at_ : Nat) : Nat → Nat
  | 0 => 0
  | j + 1 => sumB bs at_ j + bs.getD (at_ + j) 0 * 2 ^ (8 * j)



/-- The instruction of the twelve bytes from a place on. -/
def getI (bs : List Nat) (p : Nat) : Ins := ⟨bs.getD p 0, bs.getD (p + 1) 0, bs.getD (p + 2) 0, bs.getD (p + 3) 0, wrap64 (sumB bs (p + 4) 8)⟩

/-- Of the instructions of bytes the first that is wrong, from the place i on. -/
def decE (bs : List Nat) (n : Nat) : Nat → Nat → Int × Int
  | _, 0 => (0, 0)
  | i, m + 1 => if (wrong (getI bs (12 * i)) n 8).1 ≠ 0 then ((wrong (getI bs (12 * i)) n 8).1, 12 * i + (wrong (getI bs (12 * i)) n 8).2) else decE bs n (i + 1) m

def decR (bs : List Nat) : Int × Int :=
  if 3072 < bs.length then (3, 3072) else if bs.length % 12 ≠ 0 then (5, bs.length) else decE bs (bs.length / 12) 0 (bs.length / 12)

def decL (bs : List Nat) (n : Nat) : List Ins := (List.range n).map fun i => getI bs (12 * i)

theorem decE_at (bs : List Nat) (n : Nat) : ∀ (m s i : Nat), i < m → (∀ j, j < i → (wrong (getI bs (12 * (s + j))) n 8).1 = 0) → (wrong (getI bs (12 * (s + i))) n 8).1 ≠ 0 → decE bs n s m = ((wrong (getI bs (12 * (s + i))) n 8).1, 12 * ((s + i : Nat) : Int) + (wrong (getI bs (12 * (s + i))) n 8).2)
  | 0, _, i, h, _, _ => absurd h (Nat.not_lt_zero i)
  | m + 1, s, 0, _, _, h => by simp only [decE, Nat.add_zero] at *; rw [if_pos h]
  | m + 1, s, i + 1, hi, hb, h => by
    have h0 := hb 0 (by omega)
    have ih := decE_at bs n m (s + 1) i (by omega) (fun j hj => by have := hb (j + 1) (by omega); rwa [show s + 1 + j = s + (j + 1) by omega]) (by rwa [show s + 1 + i = s + (i + 1) by omega])
    simp only [Nat.add_zero] at h0
    simp only [decE, h0, ne_eq, not_true, if_false]
    rw [ih, show s + 1 + i = s + (i + 1) by omega]

theorem decE_none (bs : List Nat) (n : Nat) : ∀ (m s : Nat), (∀ j, j < m → (wrong (getI bs (12 * (s + j))) n 8).1 = 0) → decE bs n s m = (0, 0)
  | 0, _, _ => rfl
  | m + 1, s, hb => by
    have h0 := hb 0 (by omega)
    simp only [Nat.add_zero] at h0
    simp only [decE, h0, ne_eq, not_true, if_false]
    exact decE_none bs n m (s + 1) (fun j hj => by have := hb (j + 1) (by omega); rwa [show s + 1 + j = s + (j + 1) by omega])

theorem decE_zero (bs : List Nat) (n : Nat) : ∀ (m s : Nat), (decE bs n s m).1 = 0 → ∀ j, j < m → (wrong (getI bs (12 * (s + j))) n 8).1 = 0
  | 0, _, _, j, hj => absurd hj (Nat.not_lt_zero j)
  | m + 1, s, h, j, hj => by
    by_cases h0 : (wrong (getI bs (12 * s)) n 8).1 ≠ 0
    · simp only [decE, if_pos h0] at h
      exact absurd h h0
    · simp only [decE, if_neg h0] at h
      cases j with
      | zero => simpa using h0
      | succ j =>
        have := decE_zero bs n m (s + 1) h j (by omega)
        rwa [show s + 1 + j = s + (j + 1) by omega] at this

theorem decL_len (bs : List Nat) (n : Nat) : (decL bs n).length = n := by simp [decL]
theorem decL_at (bs : List Nat) (n j : Nat) (h : j < n) : (decL bs n).getD j default = getI bs (12 * j) := by simp [decL, List.getD_eq_getElem?_getD, h]

theorem wrong_ok {x : Ins} {n k : Int} (h : (wrong x n k).1 = 0) : 0 ≤ x.op ∧ x.op < 34 ∧ regE x.a (hA x.op) = 0 ∧ regE x.b (hB x.op) = 0 ∧ regE x.c (hC x.op) = 0 ∧ immE x.op x.imm n k = 0 := by
  unfold wrong at h
  split at h
  · simp at h
  · next h1 =>
    split at h
    · next h2 => exact absurd h h2
    · next h2 =>
      split at h
      · next h3 => exact absurd h h3
      · next h3 =>
        split at h
        · next h4 => exact absurd h h4
        · next h4 =>
          split at h
          · next h5 => exact absurd h h5
          · next h5 => simp only [ne_eq, Decidable.not_not] at *; exact ⟨h1.1, h1.2, h2, h3, h4, h5⟩

theorem regE_ok {r : Int} {h : Bool} (e : regE r h = 0) : 0 ≤ r ∧ r < 8 := by
  unfold regE at e
  split at e
  · split at e
    · assumption
    · simp at e
  · split at e
    · omega
    · simp at e

theorem b8_lt (z : Int) : b8 z < 256 := by unfold b8; omega
theorem byteAt_lt (z : Int) (j : Nat) : byteAt z j < 256 := Nat.mod_lt _ (by decide)
theorem u64_lt (z : Int) : u64 z < 18446744073709551616 := by unfold u64; omega

theorem wrong_at_lt (x : Ins) (n k : Int) : 0 ≤ (wrong x n k).2 ∧ (wrong x n k).2 ≤ 4 := by
  unfold wrong
  repeat' split
  all_goals simp
end Go.Proofs.YtmjokinagbpihaaDoor
