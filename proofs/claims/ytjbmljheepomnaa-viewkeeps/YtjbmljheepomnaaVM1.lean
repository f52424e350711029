/- States, and what is seen of them: the model. -/
import Derived.Test.YtjbmljheepomnaaLW1
namespace Go.Proofs.Ytjbmljheepomnaa
open Go.RowKit

/-- Whether it is so. -/
noncomputable def dec (p : Prop) : Bool := @decide p (Classical.propDecidable p)
theorem dec_yes {p : Prop} (h : p) : dec p = true := by unfold dec; simp [h]
theorem dec_no {p : Prop} (h : ¬ p) : dec p = false := by unfold dec; simp [h]
theorem dec_iff {p q : Prop} (h : p ↔ q) : dec p = dec q := by
  by_cases hp : p
  · rw [dec_yes hp, dec_yes (h.1 hp)]
  · rw [dec_no hp, dec_no (fun hq => hp (h.2 hq))]
/-- Eight registers. -/
structure Rg where
  r0 : Int
  r1 : Int
  r2 : Int
  r3 : Int
  r4 : Int
  r5 : Int
  r6 : Int
  r7 : Int
structure LnX where
  vs : List Int
  ws : List (Int × Int)
  tk : Int
  dr : Int
structure PrX where
  st : Int
  pc : Int
  r : Rg
  cu : Int
  ti : Int
  fi : Bool
  wk : Int
  ls : List LnX
structure PtX where
  cu : Int
  lg : List (Int × Int × Int)
  lo : Int
  fo : Int
  os : List Int
  qs : List (List Int)
structure StX where
  tk : Int
  ps : List PtX
  qs : List PrX
def rg0 : Rg := ⟨0, 0, 0, 0, 0, 0, 0, 0⟩
def ln0 : LnX := ⟨[], [], 0, 0⟩
def pr0 : PrX := ⟨0, 0, rg0, 0, 0, false, 0, []⟩
def pt0 : PtX := ⟨0, [], 0, 0, [], []⟩
instance : Inhabited LnX := ⟨ln0⟩
instance : Inhabited PrX := ⟨pr0⟩
instance : Inhabited PtX := ⟨pt0⟩
/-- What of a config counts here: the labels, and whose each process is. -/
structure CfX where
  lb : List Nat
  pp : List Int
def flowsN (a b : Nat) : Bool := decide (a &&& b = a)
/-- Is a partition seen, is a process? -/
def seesP (c : CfX) (a : Nat) (i : Int) : Bool := decide (0 ≤ i) && decide (i < (c.lb.length : Int)) && flowsN (c.lb.getD i.toNat 0) a
def seesQ (c : CfX) (a : Nat) (p : Int) : Bool := decide (0 ≤ p) && decide (p < (c.pp.length : Int)) && seesP c a (c.pp.getD p.toNat 0)
/-- What is seen: of the things from i on. -/
def cutL {α : Type} (f : Int → Bool) (z : α) : Nat → List α → List α
  | _, [] => []
  | i, x :: t => (if f (i : Int) then x else z) :: cutL f z (i + 1) t
def ofX (c : CfX) (a : Nat) (s : StX) : StX := ⟨s.tk, cutL (seesP c a) pt0 0 s.ps, cutL (seesQ c a) pr0 0 s.qs⟩
theorem cut_len {α : Type} (f : Int → Bool) (z : α) : ∀ (i : Nat) (l : List α), (cutL f z i l).length = l.length
  | _, [] => rfl
  | i, x :: t => by simp [cutL, cut_len f z (i + 1) t]
theorem cut_at {α : Type} (f : Int → Bool) (z d : α) : ∀ (i : Nat) (l : List α) (j : Nat), j < l.length → (cutL f z i l).getD j d = if f ((i + j : Nat) : Int) then l.getD j d else z
  | _, [], j, h => absurd h (Nat.not_lt_zero j)
  | i, x :: t, 0, _ => by simp [cutL]
  | i, x :: t, j + 1, h => by
    have ih := cut_at f z d (i + 1) t j (by simpa using h)
    rw [show i + 1 + j = i + (j + 1) by omega] at ih
    simpa [cutL] using ih
theorem cut_cut {α : Type} (f g h : Int → Bool) (z : α) (hh : ∀ i, h i = (f i && g i)) : ∀ (i : Nat) (l : List α), cutL g z i (cutL f z i l) = cutL h z i l
  | _, [] => rfl
  | i, x :: t => by
    have ih := cut_cut f g h z hh (i + 1) t
    simp only [cutL, ih, hh]
    cases f (i : Int) <;> cases g (i : Int) <;> simp
theorem flowsN_iff (a b : Nat) : flowsN a b = true ↔ ∀ i, a.testBit i = true → b.testBit i = true := by
  unfold flowsN
  rw [decide_eq_true_iff]
  constructor
  · intro h i hi
    have := congrArg (fun x => x.testBit i) h
    simp [Nat.testBit_and, hi] at this
    exact this
  · intro h
    apply Nat.eq_of_testBit_eq
    intro i
    rw [Nat.testBit_and]
    cases hi : a.testBit i
    · rfl
    · simp [h i hi]
theorem flows_and (l a b : Nat) : flowsN l (a &&& b) = (flowsN l a && flowsN l b) := by
  rw [Bool.eq_iff_iff, Bool.and_eq_true, flowsN_iff, flowsN_iff, flowsN_iff]
  constructor
  · intro h
    exact ⟨fun i hi => by have := h i hi; rw [Nat.testBit_and, Bool.and_eq_true] at this; exact this.1, fun i hi => by have := h i hi; rw [Nat.testBit_and, Bool.and_eq_true] at this; exact this.2⟩
  · rintro ⟨h1, h2⟩ i hi
    rw [Nat.testBit_and, h1 i hi, h2 i hi]
    rfl
theorem seesP_and (c : CfX) (a b : Nat) (i : Int) : seesP c (a &&& b) i = (seesP c a i && seesP c b i) := by
  unfold seesP
  rw [flows_and]
  cases decide (0 ≤ i) <;> cases decide (i < (c.lb.length : Int)) <;> simp
theorem seesQ_and (c : CfX) (a b : Nat) (i : Int) : seesQ c (a &&& b) i = (seesQ c a i && seesQ c b i) := by
  unfold seesQ
  rw [seesP_and]
  cases decide (0 ≤ i) <;> cases decide (i < (c.pp.length : Int)) <;> simp
theorem of_of (c : CfX) (a : Nat) (s : StX) : ofX c a (ofX c a s) = ofX c a s := by
  unfold ofX
  rw [cut_cut (seesP c a) (seesP c a) (seesP c a) pt0 (fun i => by simp), cut_cut (seesQ c a) (seesQ c a) (seesQ c a) pr0 (fun i => by simp)]
theorem of_low (c : CfX) (a b : Nat) (s : StX) : ofX c (a &&& b) (ofX c a s) = ofX c (a &&& b) s := by
  have hp := fun i => seesP_and c a b i
  have hq := fun i => seesQ_and c a b i
  unfold ofX
  rw [cut_cut (seesP c a) (seesP c (a &&& b)) (seesP c (a &&& b)) pt0 (fun i => by rw [hp]; simp), cut_cut (seesQ c a) (seesQ c (a &&& b)) (seesQ c (a &&& b)) pr0 (fun i => by rw [hq]; simp)]
theorem of_high (c : CfX) (a b : Nat) (s : StX) : ofX c a (ofX c (a &&& b) s) = ofX c (a &&& b) s := by
  have hp := fun i => seesP_and c a b i
  have hq := fun i => seesQ_and c a b i
  unfold ofX
  rw [cut_cut (seesP c (a &&& b)) (seesP c a) (seesP c (a &&& b)) pt0 (fun i => by rw [hp]; cases seesP c a i <;> simp), cut_cut (seesQ c (a &&& b)) (seesQ c a) (seesQ c (a &&& b)) pr0 (fun i => by rw [hq]; cases seesQ c a i <;> simp)]
theorem sees_more (c : CfX) (a b : Nat) (p : Int) : (!seesQ c (a &&& b) p || seesQ c a p) = true := by
  rw [seesQ_and]
  cases seesQ c a p <;> simp
end Go.Proofs.Ytjbmljheepomnaa
