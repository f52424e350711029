/- The lanes of a process, plainly: how they stand, and what each call makes of them. -/
import Derived.Test.YtknklbojcnhjcaaLM1
namespace Go.Proofs.Ytknklbojcnhjcaa

instance : Inhabited LS := ⟨⟨0, [], [], 0, 0⟩⟩
def L0 : LS := ⟨0, [], [], 0, 0⟩
/-- The lane of that number. -/
def lnOf (ss : List LS) (i : Nat) : LS := ss.getD i L0

theorem lnOf_mem {ss : List LS} {i : Nat} (h : i < ss.length) : lnOf ss i ∈ ss := by
  unfold lnOf
  rw [List.getD_eq_getElem?_getD, List.getElem?_eq_getElem h]
  exact List.getElem_mem h
theorem lnOf_set (ss : List LS) (i j : Nat) (s : LS) (h : i < ss.length) : lnOf (ss.set i s) j = if j = i then s else lnOf ss j := by
  unfold lnOf
  rw [List.getD_eq_getElem?_getD, List.getD_eq_getElem?_getD, List.getElem?_set]
  by_cases e : i = j
  · subst e; simp [h]
  · rw [if_neg e, if_neg (fun h => e h.symm)]
theorem set_same {ss : List LS} {i : Nat} (h : i < ss.length) : ss.set i (lnOf ss i) = ss := by
  unfold lnOf
  rw [List.getD_eq_getElem?_getD, List.getElem?_eq_getElem h]
  simp

/-- They stand as they may. -/
structure GoodP (ss : List LS) (cur : Nat) : Prop where
  n1 : 1 ≤ ss.length
  n2 : ss.length ≤ 9
  cu : cur < ss.length
  each : ∀ s ∈ ss, Good s

theorem GoodP.at {ss : List LS} {cur : Nat} (h : GoodP ss cur) {i : Nat} (hi : i < ss.length) : Good (lnOf ss i) := h.each _ (lnOf_mem hi)
theorem GoodP.set {ss : List LS} {cur : Nat} (h : GoodP ss cur) (i : Nat) {s : LS} (hs : Good s) {c : Nat} (hc : c < ss.length) : GoodP (ss.set i s) c :=
  ⟨by simpa using h.n1, by simpa using h.n2, by simpa using hc, fun x hx => by
    rcases List.mem_or_eq_of_mem_set hx with h1 | h1
    · exact h.each x h1
    · rw [h1]; exact hs⟩
theorem GoodP.map {ss : List LS} {cur : Nat} (h : GoodP ss cur) (f : LS → LS) (hf : ∀ s, Good s → Good (f s)) : GoodP (ss.map f) cur :=
  ⟨by simpa using h.n1, by simpa using h.n2, by simpa using h.cu, fun x hx => by
    obtain ⟨s, hs, rfl⟩ := List.mem_map.mp hx
    exact hf s (h.each s hs)⟩

/-- Is there such a lane? -/
def isP (n : Nat) (lane : Int) : Bool := decide (0 ≤ lane ∧ lane < (n : Int))

def putP (ss : List LS) (lane v : Int) : Int × List LS := if isP ss.length lane then ((putL (lnOf ss lane.toNat) v).1, ss.set lane.toNat (putL (lnOf ss lane.toNat) v).2) else (2, ss)
def dropP (ss : List LS) (lane : Int) : List LS := if isP ss.length lane then ss.set lane.toNat (dropL (lnOf ss lane.toNat)) else ss

/-- The number of the lane that is looked at as the k-th. -/
def rnd (n cur k : Nat) : Nat := (cur + k) % n
/-- How many have none, from the cursor on (at most f are looked at). -/
def fstP (ss : List LS) (cur : Nat) : Nat → Nat → Option Nat
  | _, 0 => none
  | k, f + 1 => if (lnOf ss (rnd ss.length cur k)).vs = [] then fstP ss cur (k + 1) f else some (rnd ss.length cur k)
def takeP (ss : List LS) (cur : Nat) : (Int × Int × (Int × Int) × Bool × Int) × List LS × Nat :=
  match fstP ss cur 0 ss.length with
  | none => ((0, 0, (0, 0), false, 21), ss, cur)
  | some i => (((takeL (lnOf ss i)).1.1, (i : Int), (takeL (lnOf ss i)).1.2.1, (takeL (lnOf ss i)).1.2.2.1, (takeL (lnOf ss i)).1.2.2.2), ss.set i (takeL (lnOf ss i)).2, (i + 1) % ss.length)

theorem fstP_none {ss : List LS} {cur : Nat} : ∀ (f k : Nat), (∀ j, k ≤ j → j < k + f → (lnOf ss (rnd ss.length cur j)).vs = []) → fstP ss cur k f = none
  | 0, _, _ => rfl
  | f + 1, k, h => by
    unfold fstP
    rw [if_pos (h k (Nat.le_refl _) (by omega))]
    exact fstP_none f (k + 1) (fun j h1 h2 => h j (by omega) (by omega))
theorem fstP_some {ss : List LS} {cur m : Nat} (hm : (lnOf ss (rnd ss.length cur m)).vs ≠ []) : ∀ (f k : Nat), k ≤ m → m < k + f → (∀ j, k ≤ j → j < m → (lnOf ss (rnd ss.length cur j)).vs = []) → fstP ss cur k f = some (rnd ss.length cur m)
  | 0, k, h1, h2, _ => by omega
  | f + 1, k, h1, h2, h => by
    unfold fstP
    by_cases e : k = m
    · subst e; rw [if_neg hm]
    · rw [if_pos (h k (Nat.le_refl _) (by omega))]
      exact fstP_some hm f (k + 1) (by omega) (by omega) (fun j h3 h4 => h j (by omega) h4)
theorem takeP_none {ss : List LS} {cur : Nat} (h : ∀ j, j < ss.length → (lnOf ss (rnd ss.length cur j)).vs = []) : takeP ss cur = ((0, 0, (0, 0), false, 21), ss, cur) := by
  unfold takeP
  rw [fstP_none ss.length 0 (fun j _ h2 => h j (by omega))]
theorem takeP_some {ss : List LS} {cur m i : Nat} (hi : i = rnd ss.length cur m) (hm : m < ss.length) (hne : (lnOf ss i).vs ≠ []) (h : ∀ j, j < m → (lnOf ss (rnd ss.length cur j)).vs = []) :
    takeP ss cur = (((takeL (lnOf ss i)).1.1, (i : Int), (takeL (lnOf ss i)).1.2.1, (takeL (lnOf ss i)).1.2.2.1, (takeL (lnOf ss i)).1.2.2.2), ss.set i (takeL (lnOf ss i)).2, (i + 1) % ss.length) := by
  subst hi
  unfold takeP
  rw [fstP_some hne ss.length 0 (by omega) (by omega) (fun j _ h2 => h j h2)]
theorem takeP_cases (ss : List LS) (cur : Nat) : (∀ j, j < ss.length → (lnOf ss (rnd ss.length cur j)).vs = []) ∨ ∃ m, m < ss.length ∧ (lnOf ss (rnd ss.length cur m)).vs ≠ [] ∧ ∀ j, j < m → (lnOf ss (rnd ss.length cur j)).vs = [] := by
  have key : ∀ f, f ≤ ss.length → (∀ j, j < f → (lnOf ss (rnd ss.length cur j)).vs = []) ∨ ∃ m, m < ss.length ∧ (lnOf ss (rnd ss.length cur m)).vs ≠ [] ∧ ∀ j, j < m → (lnOf ss (rnd ss.length cur j)).vs = [] := by
    intro f
    induction f with
    | zero => intro _; exact .inl (fun j hj => by omega)
    | succ f ih =>
      intro hf
      rcases ih (by omega) with h | h
      · by_cases e : (lnOf ss (rnd ss.length cur f)).vs = []
        · refine .inl (fun j hj => ?_)
          by_cases ej : j = f
          · subst ej; exact e
          · exact h j (by omega)
        · exact .inr ⟨f, by omega, e, h⟩
      · exact .inr h
  exact key ss.length (Nat.le_refl _)
theorem rnd_lt {n cur k : Nat} (h : 0 < n) : rnd n cur k < n := Nat.mod_lt _ h

/-- Does a process wait in one of them? -/
def anyP (ss : List LS) (p : Int) : Bool := ss.any (fun s => decide (0 ≤ idxL s.ws p))
def waitP (ss : List LS) (lane p v : Int) : Int × List LS :=
  if isP ss.length lane then (if anyP ss p then (8, ss) else ((waitL (lnOf ss lane.toNat) p v).1, ss.set lane.toNat (waitL (lnOf ss lane.toNat) p v).2)) else (2, ss)
def leaveP (ss : List LS) (p : Int) : Bool × List LS := (ss.any (fun s => (leaveL s p).1), ss.map (fun s => (leaveL s p).2))
def endP (ss : List LS) : List (Int × Int) × List LS := (ss.flatMap (·.ws), ss.map endL)
def someP (ss : List LS) : Bool := ss.any (fun s => decide (s.vs ≠ []))

theorem GoodP.put {ss : List LS} {cur : Nat} (h : GoodP ss cur) (lane v : Int) : GoodP (putP ss lane v).2 cur := by
  unfold putP
  split
  · rename_i hi
    have hi : 0 ≤ lane ∧ lane < (ss.length : Int) := by simpa [isP] using hi
    exact h.set _ ((h.at (by omega)).put v) h.cu
  · exact h
theorem GoodP.drop {ss : List LS} {cur : Nat} (h : GoodP ss cur) (lane : Int) : GoodP (dropP ss lane) cur := by
  unfold dropP
  split
  · rename_i hi
    have hi : 0 ≤ lane ∧ lane < (ss.length : Int) := by simpa [isP] using hi
    exact h.set _ (h.at (by omega)).drop h.cu
  · exact h
theorem GoodP.take {ss : List LS} {cur : Nat} (h : GoodP ss cur) : GoodP (takeP ss cur).2.1 (takeP ss cur).2.2 := by
  have h1 := h.n1
  rcases takeP_cases ss cur with hn | ⟨m, hm, hne, hb⟩
  · rw [takeP_none hn]; exact h
  · rw [takeP_some rfl hm hne hb]
    exact h.set _ (h.at (rnd_lt (by omega))).take (Nat.mod_lt _ (by omega))
theorem GoodP.wait {ss : List LS} {cur : Nat} (h : GoodP ss cur) (lane : Int) {p : Int} (hp : Fit64 p) (v : Int) : GoodP (waitP ss lane p v).2 cur := by
  unfold waitP
  split
  · rename_i hi
    have hi : 0 ≤ lane ∧ lane < (ss.length : Int) := by simpa [isP] using hi
    split
    · exact h
    · exact h.set _ ((h.at (by omega)).wait hp v) h.cu
  · exact h
theorem GoodP.leave {ss : List LS} {cur : Nat} (h : GoodP ss cur) (p : Int) : GoodP (leaveP ss p).2 cur := h.map _ (fun _ hs => hs.leave p)
theorem GoodP.over {ss : List LS} {cur : Nat} (h : GoodP ss cur) : GoodP (endP ss).2 cur := h.map _ (fun _ hs => hs.over)

/-- The first ones changed, the others as they were. -/
def mapTo (f : LS → LS) (i : Nat) (ss : List LS) : List LS := (ss.take i).map f ++ ss.drop i
theorem mapTo_len (f : LS → LS) (i : Nat) (ss : List LS) : (mapTo f i ss).length = ss.length := by simp [mapTo]; omega
theorem mapTo_zero (f : LS → LS) (ss : List LS) : mapTo f 0 ss = ss := by simp [mapTo]
theorem mapTo_all (f : LS → LS) {i : Nat} {ss : List LS} (h : ss.length ≤ i) : mapTo f i ss = ss.map f := by simp [mapTo, List.take_of_length_le h, List.drop_of_length_le h]
theorem mapTo_at (f : LS → LS) {i : Nat} {ss : List LS} (h : i < ss.length) : lnOf (mapTo f i ss) i = lnOf ss i := by
  unfold lnOf mapTo
  rw [List.getD_eq_getElem?_getD, List.getD_eq_getElem?_getD, List.getElem?_append_right (by simp; omega)]
  simp
  rw [show i - min i ss.length = 0 by omega, Nat.add_zero]
theorem mapTo_set (f : LS → LS) {i : Nat} {ss : List LS} (h : i < ss.length) : (mapTo f i ss).set i (f (lnOf ss i)) = mapTo f (i + 1) ss := by
  unfold lnOf mapTo
  rw [List.set_append_right _ _ (by simp; omega), List.take_succ_eq_append_getElem h, List.map_append, List.append_assoc]
  have e : i - (List.map f (List.take i ss)).length = 0 := by simp; omega
  rw [e, List.drop_eq_getElem_cons h, List.getD_eq_getElem?_getD, List.getElem?_eq_getElem h]
  rfl
end Go.Proofs.Ytknklbojcnhjcaa
